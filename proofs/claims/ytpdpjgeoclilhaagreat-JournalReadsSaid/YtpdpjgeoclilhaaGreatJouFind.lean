/-
  Contract of Find: the sectors one by one, what counts of them.
-/
import Derived.Test.YtpdpjgeoclilhaaGreatJouTake
import Derived.Test.YtpdpjgeoclilhaaGreatGrpJB
namespace Go.Proofs.YtpdpjgeoclilhaaGreat
open Go.RowKit Go.Shelf
namespace Jo
open Num (hid)
open Disk (Mod Fil Sees Stays)
open Mem (Bs bs tS Chg ptr blk_cell blk_free blk_new blk_set blk_other blk_alloc row_kept row_shape row_type)
variable {O : Nat → Prop} {d m p : Nat} {M : Mod} {v : Value} {f : Fnd} {w w' : World}

theorem toMem {F : Nat → Prop} (h : Disk.Chg F w w') : Chg F w w' := ⟨h.os, h.tape, h.output, h.size, h.block⟩
theorem toDisk {F : Nat → Prop} (h : Chg F w w') : Disk.Chg F w w' := ⟨h.os, h.tape, h.output, h.size, h.block⟩
/-- How many sectors a journal has at most. -/
theorem size_le (h : Sees O d m M w) (n : Disk.Nam) : M.size n ≤ 16384 := by
  obtain ⟨tag, L, D, hL, _, _⟩ := h
  unfold Disk.Mod.size
  cases hg : Disk.get? M.fs n with
  | none => simp
  | some F =>
    rw [← hL] at hg
    have hm : (n, F) ∈ Disk.dirOf L := by
      unfold Disk.get? at hg
      obtain ⟨e, he, h2⟩ := Option.map_eq_some_iff.1 hg
      have h3 := List.mem_of_find?_eq_some he
      have h4 := List.find?_some he
      have h5 : e.1 = n := by simpa using h4
      rw [← h5, ← h2]
      exact h3
    obtain ⟨e, he, h2⟩ := List.mem_map.1 hm
    obtain ⟨v, Q, hf⟩ := D.files e he
    have hF : e.2.2 = F := (Prod.mk.inj h2).2
    show (F.ps.length : Int) ≤ 16384
    rw [← hF, hf.ps, List.length_map]
    have := hf.len
    omega
/-- Where the others' own blocks turn, and new ones come. -/
theorem sees_beside {O F : Nat → Prop} {d m : Nat} {M : Mod} {w w' : World} (h : Sees O d m M w) (hc : Chg F w w') (hF : ∀ k, F k → k < w.heap.size → O k) : Sees (fun k => O k ∨ (w.heap.size ≤ k ∧ k < w'.heap.size)) d m M w' := by
  obtain ⟨tag, L, D, hL, hN, hs⟩ := h
  have hc2 : Disk.Chg (fun k => F k ∧ k < w.heap.size) w w' := (toDisk hc).mono (fun k hk e => ⟨e, hk⟩)
  have D3 : Disk.DiskAt (Disk.norm tag w.heap.size) w' d m M.c L := D.kept (F := fun k => F k ∧ k < w.heap.size) hc2 (fun k hk => Disk.norm_lt tag hk) (fun k hk => hN k (hF k hk.1 hk.2))
  refine ⟨Disk.norm tag w.heap.size, L, D3, hL, ?_, ?_⟩
  · rintro k (hk | ⟨hk, _⟩)
    · rw [Disk.norm_lt tag (hs k hk)]; exact hN k hk
    · exact Disk.norm_ge tag hk
  · rintro k (hk | ⟨_, hk⟩)
    · exact Nat.lt_of_lt_of_le (hs k hk) hc.size
    · exact hk
/-- What was found beside a disk. -/
structure FS (O : Nat → Prop) (d m p : Nat) (M : Mod) (v : Value) (f : Fnd) (w : World) : Prop where
  disk : Sees (fun k => O k ∨ fT p v k) d m M w
  fb : FB p v f w
  op : ∀ k, O k → ¬ fT p v k
theorem FS.on (h : FS O d m p M v f w) (hb : Below w.heap.size w w') : FS O d m p M v f w' := ⟨h.disk.kept hb, h.fb.on hb, h.op⟩
theorem FS.over {M' : Mod} (h : FS O d m p M v f w) (hd : Sees (fun k => O k ∨ fT p v k) d m M' w') (hs : Stays (fun k => O k ∨ fT p v k) w w') : FS O d m p M' v f w' :=
  ⟨hd, h.fb.kept (toMem hs) (fun x => x (Or.inr (Or.inl rfl))) (fun _ hg x => x (Or.inr (Or.inr hg))), h.op⟩
/-- Behind take. -/
theorem FS.took {g : Fnd} (h : FS O d m p M v f w) (ht : Took p v w g w') : ∃ v', FS O d m p M v' g w' ∧ Stays O w w' ∧ ∀ k, v'.ownBlock = some k → v.ownBlock = some k ∨ w.heap.size ≤ k := by
  obtain ⟨v', hf, hc, hk⟩ := ht
  have hlt : ∀ k, O k → k < w.heap.size := fun k hk => Sees.olt' h.disk (Or.inl hk)
  refine ⟨v', ⟨(sees_beside h.disk hc (fun k hk _ => Or.inr hk)).fewer ?_, hf, ?_⟩, (toDisk hc).mono (fun k _ hk hO => h.op k hO hk), hk⟩
  · rintro k (hO | rfl | hv)
    · exact Or.inl (Or.inl hO)
    · exact Or.inl (Or.inr (Or.inl rfl))
    · rcases hk k hv with e | e
      · exact Or.inl (Or.inr (Or.inr e))
      · exact Or.inr ⟨e, (hf.row.lt k hv).2⟩
  · rintro k hO (rfl | hv)
    · exact h.op k hO (Or.inl rfl)
    · rcases hk k hv with e | e
      · exact h.op k hO (Or.inr e)
      · have := hlt k hO; omega
/-- A box of nothing yet. -/
theorem fs_new (h : Sees O d m M w) : FS O d m w.heap.size M (.slice none 0 0) f0 (w.alloc (.cells (fCells f0 (.slice none 0 0)) tFo)) ∧ Below w.heap.size w (w.alloc (.cells (fCells f0 (.slice none 0 0)) tFo)) := by
  have hb : Below w.heap.size w (w.alloc (.cells (fCells f0 (.slice none 0 0)) tFo)) := (Below.refl _ _).alloc (Nat.le_refl _) _
  refine ⟨⟨(h.more hb).fewer ?_, ⟨blk_new w _, ⟨rfl, Or.inl ⟨rfl, rfl⟩⟩, fun _ hg => by cases hg⟩, ?_⟩, hb⟩
  · rintro k (hO | rfl | hv)
    · exact Or.inl hO
    · exact Or.inr ⟨Nat.le_refl _, by simp⟩
    · cases hv
  · rintro k hO (rfl | hv)
    · have := Sees.olt' h hO; omega
    · cases hv
/-- Bounds behind i sectors. -/
structure Bi (i : Nat) (f : Fnd) : Prop where
  counted : f.counted ≤ f.recs.length
  recs : f.recs.length ≤ i
  feet : f.feet ≤ i
  pages : f.pages ≤ 4096
  above : f.above ≤ 4096
theorem bi0 : Bi 0 f0 := ⟨Nat.le_refl _, Nat.le_refl _, Nat.le_refl _, by simp [f0], by simp [f0]⟩
theorem Bi.bnd {i : Nat} (h : Bi i f) (hi : i ≤ 16384) : Bnd f := ⟨h.counted, by have := h.recs; omega, by have := h.feet; omega, h.pages, h.above⟩
theorem Bi.weak {i : Nat} (h : Bi i f) : Bi (i + 1) f := ⟨h.counted, by have := h.recs; omega, by have := h.feet; omega, h.pages, h.above⟩
theorem Bi.take {i : Nat} {g : Fnd} {l : List UInt8} (h : Bi i f) (e : takeF f l = some g) : Bi (i + 1) g := by
  have h1 := h.counted
  have h2 := h.recs
  have h3 := h.feet
  have h4 := h.pages
  have h5 := h.above
  unfold takeF at e
  split at e
  · cases e
  · split at e
    · cases e
    · split at e
      · split at e
        · cases e
        · cases e
          refine ⟨?_, ?_, ?_, h4, ?_⟩
          · show f.counted ≤ (f.recs ++ [_]).length; simp; omega
          · show (f.recs ++ [_]).length ≤ i + 1; simp; omega
          · show f.feet ≤ i + 1; omega
          · show max f.above (kN l + 1) ≤ 4096; omega
      · split at e
        · split at e
          · cases e
          · rename_i hr
            cases e
            refine ⟨Nat.le_refl _, ?_, ?_, ?_, h5⟩
            · show f.recs.length ≤ i + 1; omega
            · show f.feet + 1 ≤ i + 1; omega
            · show footP f l ≤ 4096
              have hr' : rightFoot f l = true := by simpa using hr
              unfold rightFoot at hr'
              simp only [Bool.and_eq_true, decide_eq_true_eq] at hr'
              exact hr'.1.1.1
        · cases e
/-- The first pages of a row. -/
theorem row_cut {l : List Rec} {n cap : Nat} {ao : Option Addr} (h : w.ownsRow 0 tPg 2 (.slice ao n cap) l.length (l.flatMap pV)) {c : Nat} (hc : c ≤ l.length) :
    n = l.length ∧ c ≤ cap ∧ w.ownsRow 0 tPg 2 (.slice ao c cap) (l.take c).length ((l.take c).flatMap pV) := by
  have hl : (l.take c).length = c := by rw [List.length_take]; omega
  have ht : (l.flatMap pV).take (c * 2) = (l.take c).flatMap pV := by
    clear h hl
    induction l generalizing c with
    | nil => simp
    | cons x r ih =>
      cases c with
      | zero => simp
      | succ c =>
        rw [List.flatMap_cons, List.take_succ_cons, List.flatMap_cons, ← ih (by simpa using hc)]
        rw [show (c + 1) * 2 = (pV x).length + c * 2 from by show _ = 2 + c * 2; omega, List.take_append, List.take_of_length_le (by omega), Nat.add_sub_cancel_left]
  obtain ⟨h1, h2⟩ := h
  rcases h2 with ⟨h2, h3⟩ | ⟨g, cap', cur, h2, h3, h4, h5, h6, h7, h8⟩
  · cases h2
    have : c = 0 := by omega
    subst this
    exact ⟨by omega, Nat.le_refl _, by simp, Or.inl ⟨rfl, by simp⟩⟩
  · cases h2
    refine ⟨rfl, by omega, ?_, Or.inr ⟨g, cap, cur, by rw [hl], h3, h4, by omega, h6, h7, ?_⟩⟩
    · rw [← ht, List.length_take, h1, hl]; omega
    · rw [hl, ← ht, ← h8, List.take_take]
      congr 1
      omega
/-- What Find answers. -/
def ansN (X : Int × Fnd × Mod) : Bool := decide (X.1 = 0 ∧ X.2.1.feet ≠ 0)
def ansP (X : Int × Fnd × Mod) : Nat := if ansN X then X.2.1.pages else 0
def ansL (X : Int × Fnd × Mod) : List Rec := if ansN X then countF X.2.1 else []
def FindPost (O : Nat → Prop) (d m : Nat) (X : Int × Fnd × Mod) (w : World) (e : Ending) (w' : World) : Prop :=
  ∃ v, e = .returned (.tuple #[.int .i64 (ansP X : Nat), v, .bool (ansN X), .int .i64 X.1]) ∧ w'.ownsRow 0 tPg 2 v (ansL X).length ((ansL X).flatMap pV) ∧ Sees (fun k => O k ∨ v.ownBlock = some k) d m X.2.2 w' ∧ Stays O w w' ∧ ∀ g, v.ownBlock = some g → ¬ O g ∧ w.heap.size ≤ g
theorem find_none {X : Int × Fnd × Mod} (hX : X.1 ≠ 0 ∨ X.2.1.feet = 0) (h : FS O d m p X.2.2 v f w') (hs : Stays O w w') {r : Int} (hr : r = X.1) : FindPost O d m X w (.returned (.tuple #[.int .i64 0, .slice none 0 0, .bool false, .int .i64 r])) w' := by
  have e : ansN X = false := decide_eq_false (fun ⟨h1, h2⟩ => hX.elim (fun x => x h1) (fun x => h2 x))
  have e1 : ansP X = 0 := by unfold ansP; rw [e]; rfl
  have e2 : ansL X = [] := by unfold ansL; rw [e]; rfl
  subst hr
  refine ⟨.slice none 0 0, by rw [e, e1]; rfl, ?_, h.disk.fewer ?_, hs, fun g hg => by cases hg⟩
  · rw [e2]; exact ⟨rfl, Or.inl ⟨rfl, rfl⟩⟩
  · rintro k (hk | hk)
    · exact Or.inl hk
    · cases hk
/-- In the course of Find: what is left to read. -/
structure Fi (O : Nat → Prop) (d m p : Nat) (M : Mod) (w : World) (n i : Nat) (v : Value) (wr : World) : Prop where
  st : ∃ (f : Fnd) (Mi : Mod), FS O d m p Mi v f wr ∧ Bi i f ∧ findM M = findN (n - i) i f Mi
  on : Stays O w wr
  new : ∀ g, v.ownBlock = some g → w.heap.size ≤ g
theorem read_jn {O : Nat → Prop} (h : Sees O d m M w) (i : Nat) (hi : i ≤ 16384) : Calls Tryz.prog 46 #[ptr d, .string jS, .int .i64 (i : Nat)] w fun e w' => e = .returned (.tuple #[.string (bs (M.read jn i).1), .int .i64 (M.read jn i).2.1]) ∧ Sees O d m (M.read jn i).2.2 w' ∧ Stays O w w' :=
  Disk.read_sees h jS (by decide) (i : Int) (by omega)
theorem slice_to (ao : Option Addr) (n cap c : Nat) (hc : c ≤ cap) (w : World) : (Instr.sliceAt tPgs (.slice ao n cap) none (some (.int .i64 (c : Nat))) none).run Tryz.prog w = .ok (.slice ao c cap) w := by
  have hu := Tryz.underlying36
  have h1 : ¬ (cap : Int) < (c : Int) := by omega
  cases ao with
  | none => simp [go_sem, hu, hc]
  | some a => simp [go_sem, hu, hc]
theorem find_some {X : Int × Fnd × Mod} {ao : Option Addr} {cap : Nat} {g : Fnd} (hX : X.2.1.feet ≠ 0) (hro : w'.ownsRow 0 tPg 2 (.slice ao X.2.1.counted cap) (X.2.1.recs.take X.2.1.counted).length ((X.2.1.recs.take X.2.1.counted).flatMap pV)) (h : FS O d m p X.2.2 (.slice ao X.2.1.recs.length cap) g w') (hs : Stays O w w') (hn : ∀ k, (Value.slice ao X.2.1.recs.length cap).ownBlock = some k → w.heap.size ≤ k) (q : Nat) (h0 : X.1 = 0 := by rfl) :
    FindPost O d m X w (.returned (.tuple #[.int .i64 (X.2.1.pages : Nat), .slice ao X.2.1.counted cap, .bool true, .int .i64 0])) (w'.drewN q) := by
  have e : ansN X = true := decide_eq_true ⟨h0, hX⟩
  have e1 : ansP X = X.2.1.pages := by unfold ansP; rw [e]; rfl
  have e2 : ansL X = X.2.1.recs.take X.2.1.counted := by unfold ansL; rw [e]; rfl
  have eb : ∀ k, (Value.slice ao X.2.1.counted cap).ownBlock = some k → (Value.slice ao X.2.1.recs.length cap).ownBlock = some k := fun k hk => by cases ao <;> exact hk
  have hb : Below w'.heap.size w' (w'.drewN q) := below_drewN (Below.refl _ _) q
  refine ⟨.slice ao X.2.1.counted cap, by rw [e, e1, h0], ?_, (h.disk.kept hb).fewer ?_, hs.trans (stays_of hb), fun k hk => ⟨fun hO => h.op k hO (Or.inr (eb k hk)), hn k (eb k hk)⟩⟩
  · rw [e2]; exact row_kept hro (F := fun _ => False) (Chg.of_below hb) (fun _ _ x => x)
  · rintro k (hk | hk)
    · exact Or.inl hk
    · exact Or.inr (Or.inr (eb k hk))
set_option maxRecDepth 100000 in
set_option maxHeartbeats 4000000 in
theorem find_any (h : Sees O d m M w) :
    Calls Tryz.prog 14 #[ptr d] w (FindPost O d m (findM M) w) := by
  have hsz := size_le h jn
  obtain ⟨hf0, hb0⟩ := fs_new h
  obtain ⟨n, hn⟩ : ∃ n, (M.size jn).toNat = n := ⟨_, rfl⟩
  have hn16 : n ≤ 16384 := by omega
  have hmod : findM M = findN n 0 f0 M := by unfold findM; rw [hn]
  obtain ⟨w0, hw0⟩ : ∃ x, w.alloc (.cells #[.bool false, .int .u64 0, .slice none 0 0, .int .i64 0, .int .i64 0, .int .i64 0, .int .i64 0] tFo) = x := ⟨_, rfl⟩
  have e0 : w.alloc (.cells (fCells f0 (.slice none 0 0)) tFo) = w0 := hw0
  rw [e0] at hf0 hb0
  have H0 := hid hf0
  have HSZ := size_jn hf0.disk
  have HFI : Fi O d m w.heap.size M w n 0 (.slice none 0 0) w0 := ⟨⟨f0, M, hf0, bi0, hmod⟩, stays_of hb0, fun g hg => by cases hg⟩
  have HF0 := hid HFI
  have HS := hid HSZ
  have HE := hid hw0
  generalize M.size jn = sz at *
  clear h hf0 hb0 hmod hsz hw0 e0 HFI HSZ
  go_enter Tryz.func14, Tryz.ntmps14
  go_wp2_with fail
  rw [HE.out]
  refine HS.out.mono ?_
  rintro e w1 ⟨rfl, rfl⟩
  go_wp2_with fail
  go_loopw [14] (fun i wr => ∃ (k : Nat) (v : Value), k ≤ n ∧ i = .int .i64 k ∧ Fi O d m w.heap.size M w n k v wr) (fun i _ => n - (intOf i).toNat)
  case atStart => exact ⟨0, _, Nat.zero_le _, rfl, HF0.out⟩
  case round =>
    obtain ⟨k, v, hk, rfl, ⟨⟨f, Mi, hfs, hbi, hm⟩, hst, hnew⟩⟩ := hrel
    have HFS := hid hfs
    have HBI := hid hbi
    have HM := hid hm
    have HST := hid hst
    have HN := hid hnew
    clear hfs hbi hm hst hnew HF0
    by_cases hlt : (k : Int) < sz
    · have hkn : k < n := by omega
      have hfn : n - k = (n - (k + 1)) + 1 := by omega
      go_wp2_with fail
      refine (read_jn HFS.out.disk k (by omega)).mono ?_
      rintro e w2 ⟨rfl, hd2, hs2⟩
      have HF2 := hid (HFS.out.over hd2 hs2)
      have HST2 := hid (HST.out.trans (fewer hs2 (fun k hk => Or.inl hk)))
      clear hd2 hs2
      have hm2 := HM.out
      rw [hfn] at hm2
      unfold findN at hm2
      generalize (Mi.read jn (k : Int)).2.1 = r at *
      generalize (Mi.read jn (k : Int)).1 = l at *
      generalize (Mi.read jn (k : Int)).2.2 = M2 at *
      have HM2 := hid hm2
      clear hm2
      by_cases hA : r ≠ 0 ∧ r ≠ 13
      · have hr1 : (r != 0) = true := by simp [hA.1]
        have hr2 : (r != 13) = true := by simp [hA.2]
        have HX := hid (HM2.out.trans (if_pos hA))
        have HA := hid hA.1
        clear hA HM2
        go_wp2
        refine bodyPost_ret (v := .tuple #[.int .i64 0, .slice none 0 0, .bool false, .int .i64 r]) (by simp [results, go_sem]) rfl ?_
        rw [HX.out]
        exact find_none (Or.inl HA.out) HF2.out HST2.out rfl
      · by_cases hr0 : r = 0
        · have hr1 : (r != 0) = false := by simp; omega
          have htk := take_any HF2.out.fb (HBI.out.bnd (by omega)) l
          have HM3 := hid (HM2.out.trans (if_neg (by omega)))
          clear HM2
          cases htf : takeF f l with
          | none =>
            rw [htf] at htk HM3
            have HT := hid htk
            clear htk htf
            go_wp2_with fail
            refine HT.out.mono ?_
            rintro e w3 ⟨rfl, bg, sa, ht⟩
            obtain ⟨ve, hfs3, hst3, hk3⟩ := HF2.out.took ht
            have HF3 := hid hfs3
            have HST3 := hid (HST2.out.trans hst3)
            have HN3 : Hid (∀ g, ve.ownBlock = some g → w.heap.size ≤ g) := hid (fun g hg => by
              rcases hk3 g hg with e | e
              · exact HN.out g e
              · exact Nat.le_trans (Nat.le_trans HST2.out.size (Nat.le_refl _)) e)
            clear ht hfs3 hst3 hk3
            have k4 : w3.cell? ⟨w.heap.size, 4, none⟩ = some (.int .i64 (f.feet : Nat)) := blk_cell HF3.out.fb.box 4
            by_cases hfe : f.feet = 0
            · have hz1 : ((f.feet : Int) == 0) = true := by simp; omega
              have HFE := hid hfe
              clear hfe
              go_wp2
              refine bodyPost_ret (v := .tuple #[.int .i64 0, .slice none 0 0, .bool false, .int .i64 0]) (by simp [results, go_sem]) rfl ?_
              rw [HM3.out]
              exact find_none (Or.inr HFE.out) HF3.out HST3.out rfl
            · have hz1 : ((f.feet : Int) == 0) = false := by simp; omega
              have HFE := hid hfe
              have k5 : w3.cell? ⟨w.heap.size, 5, none⟩ = some (.int .i64 (f.pages : Nat)) := blk_cell HF3.out.fb.box 5
              have k2 : w3.cell? ⟨w.heap.size, 2, none⟩ = some ve := blk_cell HF3.out.fb.box 2
              have k6 : w3.cell? ⟨w.heap.size, 6, none⟩ = some (.int .i64 (f.counted : Nat)) := blk_cell HF3.out.fb.box 6
              have hrw := HF3.out.fb.row
              obtain ⟨ao, cap, hv, -⟩ := row_shape hrw
              subst hv
              obtain ⟨-, hcc, hro⟩ := row_cut hrw HBI.out.counted
              have hsl := slice_to ao f.recs.length cap f.counted hcc
              have HRO := hid hro
              clear hfe hcc hro hrw
              go_upto_region 14 with fail
              go_cut [2, 3, 4, 5] (fun x2 x3 x4 x5 wx => x2 = .int .i64 (f.pages : Nat) ∧ x3 = .slice ao f.counted cap ∧ x4 = .bool true ∧ x5 = .int .i64 0 ∧ ∃ q, wx = w3.drewN q)
              case first =>
                go_region
                all_goals
                  go_wp2_with fail
                  go_meet
                  exact ⟨rfl, rfl, rfl, rfl, 1, rfl⟩
              case rest =>
              obtain ⟨rfl, rfl, rfl, rfl, q, rfl⟩ := hcut
              have hend : FindPost O d m (findM M) w (.returned (.tuple #[.int .i64 (f.pages : Nat), .slice ao f.counted cap, .bool true, .int .i64 0])) (w3.drewN q) := by
                rw [HM3.out]
                exact find_some (X := (0, f, M2)) HFE.out HRO.out HF3.out HST3.out HN3.out q
              have HEND := hid hend
              clear hend
              go_wp2
              exact bodyPost_ret (v := .tuple #[.int .i64 (f.pages : Nat), .slice ao f.counted cap, .bool true, .int .i64 0]) (by simp [results, go_sem]) rfl HEND.out
          | some g =>
            rw [htf] at htk HM3
            have HT := hid htk
            have HBG := hid (HBI.out.take htf)
            clear htk htf
            go_wp2_with fail
            refine HT.out.mono ?_
            rintro e w3 ⟨rfl, ht⟩
            obtain ⟨ve, hfs3, hst3, hk3⟩ := HF2.out.took ht
            have HNX : Hid (Fi O d m w.heap.size M w n (k + 1) ve w3) := hid ⟨⟨g, M2, hfs3, HBG.out, HM3.out⟩, HST2.out.trans hst3, fun g hg => by
              rcases hk3 g hg with e | e
              · exact HN.out g e
              · exact Nat.le_trans (Nat.le_trans HST2.out.size (Nat.le_refl _)) e⟩
            clear ht hfs3 hst3 hk3
            have hwk : wrap64 ((k : Int) + 1) = (k : Int) + 1 := by rw [Num.wrap_i]; omega
            go_wp2
            go_roundw
            case rel => exact ⟨k + 1, ve, by omega, by simp, HNX.out⟩
            case measure => simp [intOf]; omega
        · have hr1 : (r != 0) = true := by simp; omega
          have hr2 : (r != 13) = false := by simp; omega
          have htk := take_any HF2.out.fb (HBI.out.bnd (by omega)) l
          have HM3 := hid (HM2.out.trans (if_neg (by omega)))
          clear HM2
          cases htf : takeF f l with
          | none =>
            rw [htf] at htk HM3
            have HT := hid htk
            clear htk htf
            go_wp2_with fail
            refine HT.out.mono ?_
            rintro e w3 ⟨rfl, bg, sa, ht⟩
            obtain ⟨ve, hfs3, hst3, hk3⟩ := HF2.out.took ht
            have HF3 := hid hfs3
            have HST3 := hid (HST2.out.trans hst3)
            have HN3 : Hid (∀ g, ve.ownBlock = some g → w.heap.size ≤ g) := hid (fun g hg => by
              rcases hk3 g hg with e | e
              · exact HN.out g e
              · exact Nat.le_trans (Nat.le_trans HST2.out.size (Nat.le_refl _)) e)
            clear ht hfs3 hst3 hk3
            have k4 : w3.cell? ⟨w.heap.size, 4, none⟩ = some (.int .i64 (f.feet : Nat)) := blk_cell HF3.out.fb.box 4
            by_cases hfe : f.feet = 0
            · have hz1 : ((f.feet : Int) == 0) = true := by simp; omega
              have HFE := hid hfe
              clear hfe
              go_wp2
              refine bodyPost_ret (v := .tuple #[.int .i64 0, .slice none 0 0, .bool false, .int .i64 0]) (by simp [results, go_sem]) rfl ?_
              rw [HM3.out]
              exact find_none (Or.inr HFE.out) HF3.out HST3.out rfl
            · have hz1 : ((f.feet : Int) == 0) = false := by simp; omega
              have HFE := hid hfe
              have k5 : w3.cell? ⟨w.heap.size, 5, none⟩ = some (.int .i64 (f.pages : Nat)) := blk_cell HF3.out.fb.box 5
              have k2 : w3.cell? ⟨w.heap.size, 2, none⟩ = some ve := blk_cell HF3.out.fb.box 2
              have k6 : w3.cell? ⟨w.heap.size, 6, none⟩ = some (.int .i64 (f.counted : Nat)) := blk_cell HF3.out.fb.box 6
              have hrw := HF3.out.fb.row
              obtain ⟨ao, cap, hv, -⟩ := row_shape hrw
              subst hv
              obtain ⟨-, hcc, hro⟩ := row_cut hrw HBI.out.counted
              have hsl := slice_to ao f.recs.length cap f.counted hcc
              have HRO := hid hro
              clear hfe hcc hro hrw
              go_upto_region 14 with fail
              go_cut [2, 3, 4, 5] (fun x2 x3 x4 x5 wx => x2 = .int .i64 (f.pages : Nat) ∧ x3 = .slice ao f.counted cap ∧ x4 = .bool true ∧ x5 = .int .i64 0 ∧ ∃ q, wx = w3.drewN q)
              case first =>
                go_region
                all_goals
                  go_wp2_with fail
                  go_meet
                  exact ⟨rfl, rfl, rfl, rfl, 1, rfl⟩
              case rest =>
              obtain ⟨rfl, rfl, rfl, rfl, q, rfl⟩ := hcut
              have hend : FindPost O d m (findM M) w (.returned (.tuple #[.int .i64 (f.pages : Nat), .slice ao f.counted cap, .bool true, .int .i64 0])) (w3.drewN q) := by
                rw [HM3.out]
                exact find_some (X := (0, f, M2)) HFE.out HRO.out HF3.out HST3.out HN3.out q
              have HEND := hid hend
              clear hend
              go_wp2
              exact bodyPost_ret (v := .tuple #[.int .i64 (f.pages : Nat), .slice ao f.counted cap, .bool true, .int .i64 0]) (by simp [results, go_sem]) rfl HEND.out
          | some g =>
            rw [htf] at htk HM3
            have HT := hid htk
            have HBG := hid (HBI.out.take htf)
            clear htk htf
            go_wp2_with fail
            refine HT.out.mono ?_
            rintro e w3 ⟨rfl, ht⟩
            obtain ⟨ve, hfs3, hst3, hk3⟩ := HF2.out.took ht
            have HNX : Hid (Fi O d m w.heap.size M w n (k + 1) ve w3) := hid ⟨⟨g, M2, hfs3, HBG.out, HM3.out⟩, HST2.out.trans hst3, fun g hg => by
              rcases hk3 g hg with e | e
              · exact HN.out g e
              · exact Nat.le_trans (Nat.le_trans HST2.out.size (Nat.le_refl _)) e⟩
            clear ht hfs3 hst3 hk3
            have hwk : wrap64 ((k : Int) + 1) = (k : Int) + 1 := by rw [Num.wrap_i]; omega
            go_wp2
            go_roundw
            case rel => exact ⟨k + 1, ve, by omega, by simp, HNX.out⟩
            case measure => simp [intOf]; omega
    · obtain rfl : n = k := by omega
      have hm2 := HM.out
      rw [Nat.sub_self] at hm2
      have HM3 : Hid (findM M = (0, f, Mi)) := hid hm2
      clear hm2
      obtain ⟨ve, hve⟩ : ∃ x, v = x := ⟨_, rfl⟩
      subst hve
      obtain ⟨w5, hw5⟩ : ∃ x, x = wr := ⟨_, rfl⟩
      subst hw5
      have k4 : w5.cell? ⟨w.heap.size, 4, none⟩ = some (.int .i64 (f.feet : Nat)) := blk_cell HFS.out.fb.box 4
      by_cases hfe : f.feet = 0
      · have hz1 : ((f.feet : Int) == 0) = true := by simp; omega
        have HFE := hid hfe
        clear hfe
        go_wp2
        refine bodyPost_ret (v := .tuple #[.int .i64 0, .slice none 0 0, .bool false, .int .i64 0]) (by simp [results, go_sem]) rfl ?_
        rw [HM3.out]
        exact find_none (Or.inr HFE.out) HFS.out HST.out rfl
      · have hz1 : ((f.feet : Int) == 0) = false := by simp; omega
        have HFE := hid hfe
        have k5 : w5.cell? ⟨w.heap.size, 5, none⟩ = some (.int .i64 (f.pages : Nat)) := blk_cell HFS.out.fb.box 5
        have k2 : w5.cell? ⟨w.heap.size, 2, none⟩ = some v := blk_cell HFS.out.fb.box 2
        have k6 : w5.cell? ⟨w.heap.size, 6, none⟩ = some (.int .i64 (f.counted : Nat)) := blk_cell HFS.out.fb.box 6
        have hrw := HFS.out.fb.row
        obtain ⟨ao, cap, hv, -⟩ := row_shape hrw
        subst hv
        obtain ⟨-, hcc, hro⟩ := row_cut hrw HBI.out.counted
        have hsl := slice_to ao f.recs.length cap f.counted hcc
        have HRO := hid hro
        clear hfe hcc hro hrw
        go_upto_region 14 with fail
        go_cut [2, 3, 4, 5] (fun x2 x3 x4 x5 wx => x2 = .int .i64 (f.pages : Nat) ∧ x3 = .slice ao f.counted cap ∧ x4 = .bool true ∧ x5 = .int .i64 0 ∧ ∃ q, wx = w5.drewN q)
        case first =>
          go_region
          all_goals
            go_wp2_with fail
            go_meet
            exact ⟨rfl, rfl, rfl, rfl, 1, rfl⟩
        case rest =>
        obtain ⟨rfl, rfl, rfl, rfl, q, rfl⟩ := hcut
        have hend : FindPost O d m (findM M) w (.returned (.tuple #[.int .i64 (f.pages : Nat), .slice ao f.counted cap, .bool true, .int .i64 0])) (w5.drewN q) := by
          rw [HM3.out]
          exact find_some (X := (0, f, Mi)) HFE.out HRO.out HFS.out HST.out HN.out q
        have HEND := hid hend
        clear hend
        go_wp2
        exact bodyPost_ret (v := .tuple #[.int .i64 (f.pages : Nat), .slice ao f.counted cap, .bool true, .int .i64 0]) (by simp [results, go_sem]) rfl HEND.out
end Jo
end Go.Proofs.YtpdpjgeoclilhaaGreat
