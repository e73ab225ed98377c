/-
  DiskKept: the walk of the statement.
-/
import Derived.Test.YtfgaoopgnpigjaaDiskRefusedW
import Derived.Test.YtfgaoopgnpigjaaDiskKeptN
import Derived.Test.YtfgaoopgnpigjaaQuietTail
namespace Go.Proofs.Ytfgaoopgnpigjaa
open Go.RowKit
namespace Disk
open Num (hid bcells)

theorem Stays.fewer {O O' : Nat → Prop} {w w' : World} (h : Stays O w w') (hO : ∀ k, O' k → O k) : Stays O' w w' := Chg.mono h (fun _ _ hn ho => hn (hO _ ho))
theorem Stays.of_below {O : Nat → Prop} {w w' : World} (h : Below w.heap.size w w') : Stays O w w' := Chg.of_below h
theorem row_stays {O : Nat → Prop} {w w' : World} (h : Stays O w w') {base : Nat} {e : TypeId} {v : Value} {n : Nat} {xs : List Value} (hr : w.ownsRow base e 1 v n xs) (hO : ∀ g, v.ownBlock = some g → O g) : w'.ownsRow base e 1 v n xs :=
  row_kept hr h (fun g hg hn => hn (hO g hg))
/-- A page of the byte k: a name that a walk leaves closed. -/
def pg (k : Nat) : ByteArray := ⟨(pageL (UInt8.ofNat k)).toArray⟩
theorem page_at (k : Nat) (w : World) : Calls Try.prog 41 #[.int .u8 ((k : Int) % 256)] w fun e w' => e = .returned (.string (pg k)) ∧ Below w.heap.size w w' := by
  have h := page_any (UInt8.ofNat k) w
  have e : ((UInt8.ofNat k).toNat : Int) = (k : Int) % 256 := by rw [UInt8.toNat_ofNat']; omega
  rw [e] at h
  exact h
theorem page_nat (k : Nat) (h : k ≤ 210) (w : World) : Calls Try.prog 41 #[.int .u8 (k : Int)] w fun e w' => e = .returned (.string (pg k)) ∧ Below w.heap.size w w' := by
  have e : (k : Int) = (k : Int) % 256 := by omega
  rw [e]
  exact page_at k w
theorem page_one (k : Nat) (h : k ≤ 200) (w : World) : Calls Try.prog 41 #[.int .u8 ((k : Int) + 1)] w fun e w' => e = .returned (.string (pg (k + 1))) ∧ Below w.heap.size w w' := page_nat (k + 1) (by omega) w
theorem page_two (k : Nat) (h : k ≤ 200) (w : World) : Calls Try.prog 41 #[.int .u8 ((k : Int) + 2)] w fun e w' => e = .returned (.string (pg (k + 2))) ∧ Below w.heap.size w w' := page_nat (k + 2) (by omega) w
theorem page_len (k : Nat) : (pg k).data.toList.length = 256 := by
  show (pageL (UInt8.ofNat k)).toArray.toList.length = 256
  simp [pageL_len]
theorem page_size (k : Nat) : (pg k).size ≤ maxLen := by
  show (pageL (UInt8.ofNat k)).toArray.size ≤ maxLen
  unfold maxLen
  simp [pageL_len]
/-- What the others are ahead of loop 1. -/
def Oth1 (w1 w2 w3 : World) : Nat → Prop := fun k => k < w1.heap.size ∨ (w2.heap.size ≤ k ∧ k < w3.heap.size)
/-- What loop 2 has laid behind k names. -/
def Bys (w5 : World) (M : Mod) (N : List Nam) (k : Nat) (v6 : Value) (wq : World) : Prop := Below w5.heap.size w5 wq ∧ wq.ownsRow w5.heap.size tStr 1 v6 k ((N.take k).map fun n => Value.string ⟨(M.bytes n).toArray⟩)
theorem bys_start (w5 : World) (M : Mod) (N : List Nam) : Bys w5 M N 0 (.slice (some ⟨w5.heap.size, 0, none⟩) 0 0) (w5.alloc (.cells #[] tStr)) :=
  ⟨(Below.refl _ _).alloc (Nat.le_refl _) _, World.ownsRow_made w5 #[] 0 (Nat.le_refl _) (by decide) rfl⟩
/-- What the others are behind loop 2. -/
def Oth2 (w1 w2 w3 w5 w6 : World) : Nat → Prop := fun k => Oth1 w1 w2 w3 k ∨ (w5.heap.size ≤ k ∧ k < w6.heap.size)
theorem on_one {O : Nat → Prop} {d m : Nat} {M : Mod} {w : World} (h : Sees O d m M w) :
    Calls Try.prog 44 #[ptr d, .slice (some ⟨w.heap.size, 0, none⟩) 1 1] (w.alloc (.cells #[.int .i64 1] 3)) fun e w' => e = .returned (.tuple #[]) ∧ Sees O d m (M.on [1]) w' ∧ Stays O w w' := by
  have hb : Below w.heap.size w (w.alloc (.cells #[.int .i64 1] 3)) := (Below.refl _ _).alloc (Nat.le_refl _) _
  have S := h.more hb
  refine (on_sees S (.slice (some ⟨w.heap.size, 0, none⟩) 1 1) [1] (Or.inr ⟨w.heap.size, 0, 1, rfl, by simp, fun j hj => ?_⟩) (by decide) (fun b o n cap e _ => ?_)).mono ?_
  · have hj0 : j = 0 := by simpa using hj
    subst hj0
    exact blk_cell (blk_new w (.cells #[.int .i64 1] 3)) 0
  · cases e
    exact Or.inr ⟨Nat.le_refl _, by simp⟩
  · rintro e w' ⟨rfl, h1, h2⟩
    exact ⟨rfl, h1.fewer (fun k hk => Or.inl hk), (Stays.of_below hb).trans (h2.fewer (fun k hk => Or.inl hk))⟩
theorem on_nil {O : Nat → Prop} {d m : Nat} {M : Mod} {w : World} (h : Sees O d m M w) :
    Calls Try.prog 44 #[ptr d, .slice none 0 0] w fun e w' => e = .returned (.tuple #[]) ∧ Sees O d m (M.on []) w' ∧ Stays O w w' :=
  on_sees h (.slice none 0 0) [] (Or.inl ⟨none, 0, rfl, rfl⟩) (Nat.zero_le _) (fun b o n cap e _ => by cases e)

end Disk
namespace diskKept
open Disk
open Num (hid)

set_option maxRecDepth 100000 in
set_option maxHeartbeats 4000000 in
theorem walk (v0 : Value) (l : List ActM) (w : World) (hA : ActsAt w.heap.size w v0 l) :
    Calls Try.prog 10 #[v0] w fun e w' => e = .returned (.bool true) ∧ Below w.heap.size w w' := by
  have HA := hid hA
  clear hA
  go_enter Try.func10, Try.ntmps10
  go_wp2_with fail
  refine (awake_any _).mono ?_
  rintro e w1 ⟨rfl, B1⟩
  have A1 : ActsAt w1.heap.size w1 v0 l := (HA.out.kept B1).mono B1.size
  have HB1 := hid B1
  have HA1 := hid A1
  clear B1 A1
  go_wp2_with fail
  refine (filled_any w1 v0 l HA1.out).mono ?_
  rintro e w2 ⟨rfl, h2, hb2⟩
  have S2 := hid (Sees.of_has h2)
  have HB2 := hid hb2
  clear h2 hb2
  go_wp2_with fail
  refine (names_sees S2.out).mono ?_
  rintro e w3 ⟨v4, rfl, r4, hb3⟩
  have hN8 := S2.out.few
  obtain ⟨ao4, cap4, rfl, _⟩ := row_val r4
  have HB3 := hid hb3
  have S3 : Hid (Sees (Oth1 w1 w2 w3) _ _ _ w3) := hid (S2.out.more hb3)
  have hO4 := hid (fun g (hg : (Value.slice ao4 (filledM l).names.length cap4).ownBlock = some g) => (Or.inr (r4.lt g hg) : Oth1 w1 w2 w3 g))
  have R4 := hid r4
  have hfit := hid (Fits.filled l)
  have hone := hid (⟨calm_filled l, rfl, tidies_filled l⟩ : Disk.One (filledM l).names (filledM l))
  have hsort := hid S2.out.sorted
  clear r4 hb3
  generalize filledM l = M at *
  generalize hNm : M.names = N at *
  have hfitN : Hid (∀ n ∈ N, nameFit n = true ∧ n.length ≤ 16) := hid (fun n hn => by
    rw [← hNm] at hn
    obtain ⟨e, he, rfl⟩ := List.mem_map.1 hn
    exact ⟨hfit.out e he, name_small hfit.out (List.mem_map_of_mem he)⟩)
  have HNM := hid hNm
  clear hNm
  go_wp2_with fail
  go_loopw [5] (fun i wr => ∃ (k : Nat) (Mk : Mod), k ≤ N.length ∧ i = .int .i64 k ∧ Disk.One N Mk ∧ Sees (Oth1 w1 w2 w3) (w1.heap.size + 1) w1.heap.size Mk wr ∧ Stays (Oth1 w1 w2 w3) w3 wr) (fun i _ => N.length - (intOf i).toNat)
  case atStart => exact ⟨0, M, Nat.zero_le _, rfl, hone.out, S3.out, Stays.refl _ _⟩
  case round =>
    obtain ⟨k, Mk, hk, rfl, h1, hS, hSt⟩ := hrel
    have H1 := hid h1
    have HS := hid hS
    have HST := hid hSt
    clear h1 hS hSt
    by_cases hlt : k < N.length
    · have r4 := row_stays HST.out R4.out hO4.out
      obtain ⟨g4, e4, c4⟩ := row_cell r4 hlt
      subst e4
      have b4 := (r4.lt g4 rfl).2
      have hmem : N[k] ∈ N := List.getElem_mem hlt
      obtain ⟨hn1, hn2⟩ := hfitN.out _ hmem
      have hnl : (⟨N[k].toArray⟩ : ByteArray).size ≤ maxLen := by show N[k].toArray.size ≤ maxLen; unfold maxLen; simp; omega
      have C4 : ∀ wx, Below wr.heap.size wr wx → wx.cell? ⟨g4, k, none⟩ = some (.string ⟨N[k].toArray⟩) := fun wx hx => (hx.cell (p := ⟨g4, k, none⟩) b4).trans (by rw [c4, List.getElem?_map, List.getElem?_eq_getElem hlt]; rfl)
      have Sz : ∀ wx, Below wr.heap.size wr wx → Calls Try.prog 31 #[ptr (w1.heap.size + 1), .string ⟨N[k].toArray⟩] wx fun e w' => e = .returned (.int .i64 (Mk.size N[k])) ∧ wx = w' := fun wx hx => size_sees (HS.out.kept hx) ⟨N[k].toArray⟩ hnl
      have Wr : ∀ wx, Below wr.heap.size wr wx → Calls Try.prog 42 #[ptr (w1.heap.size + 1), .string ⟨N[k].toArray⟩, .int .i64 (Mk.size N[k]), .string (pg k)] wx fun e w' => ∃ r Mn, e = .returned (.int .i64 r) ∧ Disk.One N Mn ∧ Sees (Oth1 w1 w2 w3) (w1.heap.size + 1) w1.heap.size Mn w' ∧ Stays (Oth1 w1 w2 w3) wx w' := fun wx hx => (write_sees (HS.out.kept hx) ⟨N[k].toArray⟩ hnl (Mk.size N[k]) (pg k) (page_size _)).mono fun e w' ⟨he, h1, h2⟩ => ⟨_, _, he, H1.out.write hsort.out hmem hn1 (page_len _), h1, h2⟩
      generalize N[k] = nm at C4 Sz Wr
      have D4 := hid C4
      have DS := hid Sz
      have DW := hid Wr
      clear C4 Sz Wr c4 b4 r4 hmem hn1 hn2 hnl
      go_wp2_with fail
      refine Tail.wp_region_quiet_tail 14 (fun wx => Below wr.heap.size wr wx) (by kernel_rfl) (by kernel_rfl) (Below.refl _ wr).drew ?_
      simp only [List.take_succ_cons, List.take_zero, List.drop_succ_cons, List.drop_zero]
      go_big_quiet_want
      go_big_quiet_op
      go_big_quiet_on
      go_big_quiet_want
      go_big_quiet_op
      go_big_quiet_on
      go_big_quiet_want
      go_big_quiet_op
      go_big_quiet_on
      go_big_quiet_want
      go_big_quiet_op
      apply Exists.intro
      refine ⟨fun _ _ => ?_, ?_⟩
      · with_reducible exact Eq.refl _
      go_big_quiet_on
      go_big_quiet_want
      go_big_quiet_op
      refine ⟨.string ⟨nm.toArray⟩, fun wx hx => ?_, ?_⟩
      · have c := D4.out wx hx
        simp [go_sem, c]
      go_big_quiet_on
      go_big_quiet_want
      go_big_quiet_op
      go_big_quiet_on
      go_big_quiet_want
      go_big_quiet_op
      go_big_quiet_on
      go_big_quiet_want
      go_big_quiet_op
      go_big_quiet_on
      go_big_quiet_want
      go_big_quiet_op
      apply Exists.intro
      refine ⟨fun _ _ => ?_, ?_⟩
      · with_reducible exact Eq.refl _
      go_big_quiet_on
      go_big_quiet_want
      go_big_quiet_op
      refine ⟨.string ⟨nm.toArray⟩, fun wx hx => ?_, ?_⟩
      · have c := D4.out wx hx
        simp [go_sem, c]
      go_big_quiet_on
      go_big_quiet_want
      go_big_quiet_op
      refine ⟨.int .i64 (Mk.size nm), fun wx hx => ?_, ?_⟩
      · refine (DS.out wx hx).mono ?_
        rintro e w3 ⟨rfl, rfl⟩
        exact ⟨rfl, hx⟩
      go_big_quiet_on
      go_big_quiet_want
      go_big_quiet_op
      go_big_quiet_on
      go_big_quiet_want
      go_big_quiet_op
      apply Exists.intro
      refine ⟨fun _ _ => ?_, ?_⟩
      · with_reducible exact Eq.refl _
      go_big_quiet_on
      go_big_quiet_want
      go_big_quiet_op
      refine ⟨.string (pg k), fun wx hx => ?_, ?_⟩
      · with_reducible refine (page_nat k (by omega) _).mono ?_
        rintro e w3 ⟨rfl, hb3⟩
        exact ⟨rfl, hx.trans (hb3.mono hx.size)⟩
      go_big_quiet_on
      refine wpQuiet_nil ?_
      intro wq hq
      go_wp2_with fail
      refine (DW.out wq hq).mono ?_
      rintro e w5 ⟨r, Mn, rfl, hone5, hS5, hSt5⟩
      have HL : Hid (Disk.One N Mn ∧ Sees (Oth1 w1 w2 w3) (w1.heap.size + 1) w1.heap.size Mn w5 ∧ Stays (Oth1 w1 w2 w3) w3 w5) := hid ⟨hone5, hS5, (HST.out.trans (Stays.of_below hq)).trans hSt5⟩
      clear hone5 hS5 hSt5 hq
      go_wp2
      go_roundw
      case rel => exact ⟨k + 1, Mn, by omega, by go_num, HL.out.1, HL.out.2.1, HL.out.2.2⟩
      case measure => simp [intOf]; omega
    · obtain rfl : k = N.length := by omega
      obtain ⟨w5, hw5⟩ : ∃ x, x = wr := ⟨_, rfl⟩
      subst hw5
      have r4 := row_stays HST.out R4.out hO4.out
      have HR5 := hid r4
      have HBS := hid (bys_start w5 Mk N)
      clear r4
      go_wp2_with fail
      go_loopw [6, 7] (fun v6 i wq => ∃ k : Nat, k ≤ N.length ∧ i = .int .i64 k ∧ Bys w5 Mk N k v6 wq) (fun _ i _ => N.length - (intOf i).toNat)
      case atStart => exact ⟨0, Nat.zero_le _, rfl, HBS.out⟩
      case round =>
        obtain ⟨k, hk, rfl, hB⟩ := hrel
        have HB := hid hB
        clear hB
        by_cases hlt : k < N.length
        · obtain ⟨g4, e4, c4⟩ := row_cell HR5.out hlt
          subst e4
          have b4 := (HR5.out.lt g4 rfl).2
          obtain ⟨hn1, hn2⟩ := hfitN.out _ (List.getElem_mem hlt)
          have hnl : (⟨N[k].toArray⟩ : ByteArray).size ≤ maxLen := by show N[k].toArray.size ≤ maxLen; unfold maxLen; simp; omega
          have c5 : wr.cell? ⟨g4, k, none⟩ = some (.string ⟨N[k].toArray⟩) := (HB.out.1.cell (p := ⟨g4, k, none⟩) b4).trans (by rw [c4, List.getElem?_map, List.getElem?_eq_getElem hlt]; rfl)
          have By := bytes_sees (HS.out.kept HB.out.1) ⟨N[k].toArray⟩ hnl
          have HT := hid (take_map N (fun n => Value.string ⟨(Mk.bytes n).toArray⟩) k hlt)
          generalize N[k] = nm at *
          have HBY := hid By
          clear By c4 hnl hn1 hn2 b4
          go_wp2_with fail
          refine HBY.out.mono ?_
          rintro e w6 ⟨rfl, hb6⟩
          obtain ⟨v6, W2, hr2, hrow2, hbel2, _⟩ := step_str (row_kept HB.out.2 (Chg.of_below hb6) (F := fun _ => False) (fun _ _ h => h)) (Nat.le_trans HB.out.1.size hb6.size) (by omega) (⟨(Mk.bytes nm).toArray⟩ : ByteArray)
          have HHR := hid hr2
          have HN : Hid (Bys w5 Mk N (k + 1) v6 W2) := hid ⟨(HB.out.1.trans (hb6.mono HB.out.1.size)).trans hbel2, by rw [HT.out]; exact hrow2⟩
          clear hr2 hrow2 hbel2 hb6 c5
          go_wp2_with (at_builtin; refine wpList_append_run rfl (.tmp 44) (.tmp 51) 52 52 rfl _ _ (by simp [Act.eval]) (by simp [Act.eval]) HHR.out ?_)
          go_roundw
          case rel => exact ⟨k + 1, by omega, by go_num, HN.out⟩
          case measure => simp [intOf]; omega
        · obtain rfl : k = N.length := by omega
          have hB := HB.out
          rw [Bys, List.take_of_length_le (Nat.le_refl _)] at hB
          obtain ⟨hb6, r6⟩ := hB
          have hO6 : Hid (∀ g, u6.ownBlock = some g → Oth2 w1 w2 w3 w5 wr g) := hid (fun g hg => Or.inr (r6.lt g hg))
          have r6' := r6
          obtain ⟨ao6, cap6, rfl, _⟩ := row_val r6'
          clear r6'
          have r4 := row_kept HR5.out (Chg.of_below hb6) (F := fun _ => False) (fun _ _ h => h)
          have S6 : Sees (Oth2 w1 w2 w3 w5 wr) (w1.heap.size + 1) w1.heap.size Mk wr := HS.out.more hb6
          have H46 := hid r4
          have H66 := hid r6
          have HS6 := hid S6
          have HB6 := hid hb6
          clear r4 r6 S6 hb6 HB HBS
          go_wp2_with fail
          refine (off_sees HS6.out).mono ?_
          rintro e w7 ⟨rfl, h7, hs7⟩
          have HS7 := hid h7
          have HT7 := hid hs7
          clear h7 hs7
          go_wp2_with fail
          refine (on_one HS7.out).mono ?_
          rintro e w8 ⟨rfl, h8, hs8⟩
          have HS8 : Hid (Sees (Oth2 w1 w2 w3 w5 wr) (w1.heap.size + 1) w1.heap.size (kept1 Mk) w8) := hid h8
          have HT8 := hid (HT7.out.trans hs8)
          have H48 := hid (row_stays HT8.out H46.out (fun g hg => Or.inl (hO4.out g hg)))
          have H68 := hid (row_stays HT8.out H66.out hO6.out)
          clear h8 hs8
          go_wp2_with fail
          obtain ⟨w6, hw6⟩ : ∃ x, x = wr := ⟨_, rfl⟩
          subst hw6
          go_loopw [8] (fun i wq => ∃ (k : Nat) (M3 : Mod), k ≤ N.length ∧ i = .int .i64 k ∧ Two Mk N k M3 ∧ Sees (Oth2 w1 w2 w3 w5 w6) (w1.heap.size + 1) w1.heap.size M3 wq ∧ Stays (Oth2 w1 w2 w3 w5 w6) w8 wq) (fun i _ => N.length - (intOf i).toNat)
          case atStart => exact ⟨0, kept1 Mk, Nat.zero_le _, rfl, Two.start H1.out, HS8.out, Stays.refl _ _⟩
          case round =>
          obtain ⟨k, M3, hk, rfl, h2, hS3, hSt3⟩ := hrel
          have H2 := hid h2
          have HS3 := hid hS3
          have HT3 := hid hSt3
          clear h2 hS3 hSt3
          by_cases hlt : k < N.length
          · have r4 := row_stays HT3.out H48.out (fun g hg => Or.inl (hO4.out g hg))
            have r6 := row_stays HT3.out H68.out hO6.out
            obtain ⟨g4, e4, c4⟩ := row_cell r4 hlt
            obtain ⟨g6, e6, c6⟩ := row_cell r6 hlt
            have b4 := (r4.lt g4 (by rw [e4]; rfl)).2
            have b6 := (r6.lt g6 (by rw [e6]; rfl)).2
            have o4 : (Oth2 w1 w2 w3 w5 w6) g4 := Or.inl (hO4.out g4 (by rw [e4]; rfl))
            subst e4 e6
            obtain ⟨hn1, hn2⟩ := hfitN.out _ (List.getElem_mem hlt)
            have hnl : (⟨N[k].toArray⟩ : ByteArray).size ≤ maxLen := by show N[k].toArray.size ≤ maxLen; unfold maxLen; simp; omega
            have C4 : ∀ wx, Below wr.heap.size wr wx → wx.cell? ⟨g4, k, none⟩ = some (.string ⟨N[k].toArray⟩) := fun wx hx => (hx.cell (p := ⟨g4, k, none⟩) b4).trans (by rw [c4, List.getElem?_map, List.getElem?_eq_getElem hlt]; rfl)
            have C6 : ∀ wx, Below wr.heap.size wr wx → wx.cell? ⟨g6, k, none⟩ = some (.string ⟨(Mk.bytes N[k]).toArray⟩) := fun wx hx => (hx.cell (p := ⟨g6, k, none⟩) b6).trans (by rw [c6, List.getElem?_map, List.getElem?_eq_getElem hlt]; rfl)
            have hby := H2.out.bytes H1.out hlt
            have By : ∀ wx, Below wr.heap.size wr wx → Calls Try.prog 33 #[ptr (w1.heap.size + 1), .string ⟨N[k].toArray⟩] wx fun e w' => e = .returned (.string ⟨(Mk.bytes N[k]).toArray⟩) ∧ Below wx.heap.size wx w' := fun wx hx => by
              have h := bytes_sees (HS3.out.kept hx) ⟨N[k].toArray⟩ hnl
              rw [← hby]
              exact h
            have W1 : ∀ wx, Below wr.heap.size wr wx → Calls Try.prog 42 #[ptr (w1.heap.size + 1), .string ⟨N[k].toArray⟩, .int .i64 0, .string (pg (k + 1))] wx fun e w' => ∃ r M4, e = .returned (.int .i64 r) ∧ Two Mk N (k + 1) M4 ∧ Sees (Oth2 w1 w2 w3 w5 w6) (w1.heap.size + 1) w1.heap.size M4 w' ∧ Stays (Oth2 w1 w2 w3 w5 w6) wx w' := fun wx hx => (write_sees (HS3.out.kept hx) ⟨N[k].toArray⟩ hnl 0 (pg (k + 1)) (page_size _)).mono fun e w' ⟨he, h1, h2⟩ => ⟨_, _, he, H2.out.write hsort.out hlt (Nat.le_succ k) (Nat.lt_succ_self k) hn1 H1.out.names (Or.inl rfl) (page_len _), h1, h2⟩
            have W2 : ∀ (M4 : Mod) wy, Two Mk N (k + 1) M4 → Sees (Oth2 w1 w2 w3 w5 w6) (w1.heap.size + 1) w1.heap.size M4 wy → Calls Try.prog 42 #[ptr (w1.heap.size + 1), .string ⟨N[k].toArray⟩, .int .i64 (M4.size N[k]), .string (pg (k + 2))] wy fun e w' => ∃ r M5, e = .returned (.int .i64 r) ∧ Two Mk N (k + 1) M5 ∧ Sees (Oth2 w1 w2 w3 w5 w6) (w1.heap.size + 1) w1.heap.size M5 w' ∧ Stays (Oth2 w1 w2 w3 w5 w6) wy w' := fun M4 wy h2 hs => (write_sees hs ⟨N[k].toArray⟩ hnl (M4.size N[k]) (pg (k + 2)) (page_size _)).mono fun e w' ⟨he, h1, h3⟩ => ⟨_, _, he, h2.write hsort.out hlt (Nat.le_refl _) (Nat.lt_succ_self k) hn1 H1.out.names (Or.inr rfl) (page_len _), h1, h3⟩
            have c4' : wr.cell? ⟨g4, k, none⟩ = some (.string ⟨N[k].toArray⟩) := C4 wr (Below.refl _ _)
            generalize N[k] = nm at *
            have D4 := hid C4
            have D6 := hid C6
            have DB := hid By
            have DW1 := hid W1
            have DW2 := hid W2
            have HNL := hid hnl
            have HC4 := hid c4'
            have HO4b := hid o4
            have HB4 := hid b4
            clear C4 C6 By W1 W2 hnl c4' o4 b4 b6 c4 c6 r4 r6 hby hn1 hn2
            go_wp2_with fail
            refine wp_region_quiet_in (fun wx => Below wr.heap.size wr wx) (by kernel_rfl) (by kernel_rfl) (Below.refl _ wr).drew ?_
            go_big_quiet_want
            go_big_quiet_op
            go_big_quiet_on
            go_big_quiet_want
            go_big_quiet_op
            go_big_quiet_on
            go_big_quiet_want
            go_big_quiet_op
            go_big_quiet_on
            go_big_quiet_want
            go_big_quiet_op
            apply Exists.intro
            refine ⟨fun _ _ => ?_, ?_⟩
            · with_reducible exact Eq.refl _
            go_big_quiet_on
            go_big_quiet_want
            go_big_quiet_op
            refine ⟨.string ⟨nm.toArray⟩, fun wx hx => ?_, ?_⟩
            · have c := D4.out wx hx
              simp [go_sem, c]
            go_big_quiet_on
            go_big_quiet_want
            go_big_quiet_op
            refine ⟨.string ⟨(Mk.bytes nm).toArray⟩, fun wx hx => ?_, ?_⟩
            · refine (DB.out wx hx).mono ?_
              rintro e w3 ⟨rfl, hb3⟩
              exact ⟨rfl, hx.trans (hb3.mono hx.size)⟩
            go_big_quiet_on
            go_big_quiet_want
            go_big_quiet_op
            go_big_quiet_on
            go_big_quiet_want
            go_big_quiet_op
            go_big_quiet_on
            go_big_quiet_want
            go_big_quiet_op
            apply Exists.intro
            refine ⟨fun _ _ => ?_, ?_⟩
            · with_reducible exact Eq.refl _
            go_big_quiet_on
            go_big_quiet_want
            go_big_quiet_op
            refine ⟨.string ⟨(Mk.bytes nm).toArray⟩, fun wx hx => ?_, ?_⟩
            · have c := D6.out wx hx
              simp [go_sem, c]
            go_big_quiet_on
            go_big_quiet_want
            go_big_quiet_op
            apply Exists.intro
            refine ⟨fun _ _ => ?_, ?_⟩
            · with_reducible exact Eq.refl _
            go_big_quiet_on
            refine wpQuiet_nil ?_
            intro wq hq
            go_wp2_with fail
            refine Tail.wp_region_quiet_tail 9 (fun wx => Below wr.heap.size wr wx) (by kernel_rfl) (by kernel_rfl) hq.drew ?_
            clear hq
            simp only [List.take_succ_cons, List.take_zero, List.drop_succ_cons, List.drop_zero]
            go_big_quiet_want
            go_big_quiet_op
            go_big_quiet_on
            go_big_quiet_want
            go_big_quiet_op
            go_big_quiet_on
            go_big_quiet_want
            go_big_quiet_op
            go_big_quiet_on
            go_big_quiet_want
            go_big_quiet_op
            apply Exists.intro
            refine ⟨fun _ _ => ?_, ?_⟩
            · with_reducible exact Eq.refl _
            go_big_quiet_on
            go_big_quiet_want
            go_big_quiet_op
            refine ⟨.string ⟨nm.toArray⟩, fun wx hx => ?_, ?_⟩
            · have c := D4.out wx hx
              simp [go_sem, c]
            go_big_quiet_on
            go_big_quiet_want
            go_big_quiet_op
            go_big_quiet_on
            go_big_quiet_want
            go_big_quiet_op
            apply Exists.intro
            refine ⟨fun _ _ => ?_, ?_⟩
            · with_reducible exact Eq.refl _
            go_big_quiet_on
            go_big_quiet_want
            go_big_quiet_op
            apply Exists.intro
            refine ⟨fun _ _ => ?_, ?_⟩
            · with_reducible exact Eq.refl _
            go_big_quiet_on
            go_big_quiet_want
            go_big_quiet_op
            refine ⟨.string (pg (k + 1)), fun wx hx => ?_, ?_⟩
            · with_reducible refine (page_one k (by omega) _).mono ?_
              rintro e w3 ⟨rfl, hb3⟩
              exact ⟨rfl, hx.trans (hb3.mono hx.size)⟩
            go_big_quiet_on
            refine wpQuiet_nil ?_
            intro wq2 hq2
            go_wp2_with fail
            refine (DW1.out wq2 hq2).mono ?_
            rintro e w10 ⟨r, M4, rfl, h4, hS4, hSt4⟩
            have T4 : Stays (Oth2 w1 w2 w3 w5 w6) wr w10 := (Stays.of_below hq2).trans hSt4
            have HT4 := hid (HT3.out.trans T4)
            have b10 : g4 < w10.heap.size := Nat.lt_of_lt_of_le HB4.out T4.size
            have c10 : w10.cell? ⟨g4, k, none⟩ = some (.string ⟨nm.toArray⟩) := (Chg.cell T4 HB4.out (fun hn => hn HO4b.out)).trans HC4.out
            have E4 : Hid (∀ wx, Below w10.heap.size w10 wx → wx.cell? ⟨g4, k, none⟩ = some (.string ⟨nm.toArray⟩)) := hid (fun wx hx => (hx.cell (p := ⟨g4, k, none⟩) b10).trans c10)
            have ES : Hid (∀ wx, Below w10.heap.size w10 wx → Calls Try.prog 31 #[ptr (w1.heap.size + 1), .string ⟨nm.toArray⟩] wx fun e w' => e = .returned (.int .i64 (M4.size nm)) ∧ wx = w') := hid (fun wx hx => size_sees (hS4.kept hx) ⟨nm.toArray⟩ HNL.out)
            have EW : Hid (∀ wx, Below w10.heap.size w10 wx → _) := hid (fun wx hx => DW2.out M4 wx h4 (hS4.kept hx))
            clear h4 hS4 hSt4 T4 b10 c10 hq2
            go_wp2_with fail
            refine Tail.wp_region_quiet_tail 15 (fun wx => Below w10.heap.size w10 wx) (by kernel_rfl) (by kernel_rfl) (Below.refl _ w10).drew ?_
            simp only [List.take_succ_cons, List.take_zero, List.drop_succ_cons, List.drop_zero]
            go_big_quiet_want
            go_big_quiet_op
            go_big_quiet_on
            go_big_quiet_want
            go_big_quiet_op
            go_big_quiet_on
            go_big_quiet_want
            go_big_quiet_op
            go_big_quiet_on
            go_big_quiet_want
            go_big_quiet_op
            apply Exists.intro
            refine ⟨fun _ _ => ?_, ?_⟩
            · with_reducible exact Eq.refl _
            go_big_quiet_on
            go_big_quiet_want
            go_big_quiet_op
            refine ⟨.string ⟨nm.toArray⟩, fun wx hx => ?_, ?_⟩
            · have c := E4.out wx hx
              simp [go_sem, c]
            go_big_quiet_on
            go_big_quiet_want
            go_big_quiet_op
            go_big_quiet_on
            go_big_quiet_want
            go_big_quiet_op
            go_big_quiet_on
            go_big_quiet_want
            go_big_quiet_op
            go_big_quiet_on
            go_big_quiet_want
            go_big_quiet_op
            apply Exists.intro
            refine ⟨fun _ _ => ?_, ?_⟩
            · with_reducible exact Eq.refl _
            go_big_quiet_on
            go_big_quiet_want
            go_big_quiet_op
            refine ⟨.string ⟨nm.toArray⟩, fun wx hx => ?_, ?_⟩
            · have c := E4.out wx hx
              simp [go_sem, c]
            go_big_quiet_on
            go_big_quiet_want
            go_big_quiet_op
            refine ⟨.int .i64 (M4.size nm), fun wx hx => ?_, ?_⟩
            · refine (ES.out wx hx).mono ?_
              rintro e w3 ⟨rfl, rfl⟩
              exact ⟨rfl, hx⟩
            go_big_quiet_on
            go_big_quiet_want
            go_big_quiet_op
            go_big_quiet_on
            go_big_quiet_want
            go_big_quiet_op
            apply Exists.intro
            refine ⟨fun _ _ => ?_, ?_⟩
            · with_reducible exact Eq.refl _
            go_big_quiet_on
            go_big_quiet_want
            go_big_quiet_op
            apply Exists.intro
            refine ⟨fun _ _ => ?_, ?_⟩
            · with_reducible exact Eq.refl _
            go_big_quiet_on
            go_big_quiet_want
            go_big_quiet_op
            refine ⟨.string (pg (k + 2)), fun wx hx => ?_, ?_⟩
            · with_reducible refine (page_two k (by omega) _).mono ?_
              rintro e w3 ⟨rfl, hb3⟩
              exact ⟨rfl, hx.trans (hb3.mono hx.size)⟩
            go_big_quiet_on
            refine wpQuiet_nil ?_
            intro wq3 hq3
            go_wp2_with fail
            refine (EW.out wq3 hq3).mono ?_
            rintro e w11 ⟨r2, M5, rfl, h5, hS5, hSt5⟩
            have HL : Hid (Two Mk N (k + 1) M5 ∧ Sees (Oth2 w1 w2 w3 w5 w6) (w1.heap.size + 1) w1.heap.size M5 w11 ∧ Stays (Oth2 w1 w2 w3 w5 w6) w8 w11) := hid ⟨h5, hS5, (HT4.out.trans (Stays.of_below hq3)).trans hSt5⟩
            clear h5 hS5 hSt5 hq3
            go_wp2
            go_roundw
            case rel => exact ⟨k + 1, M5, by omega, by go_num, HL.out.1, HL.out.2.1, HL.out.2.2⟩
            case measure => simp [intOf]; omega
          · obtain rfl : k = N.length := by omega
            obtain ⟨w9, hw9⟩ : ∃ x, x = wr := ⟨_, rfl⟩
            subst hw9
            obtain ⟨kn, kb⟩ := kept2_is H2.out H1.out hsort.out
            have KN := hid kn
            have KB := hid kb
            clear kn kb
            go_wp2_with fail
            refine (off_sees HS3.out).mono ?_
            rintro e w10 ⟨rfl, h10, hs10⟩
            have HS10 := hid h10
            have HT10 := hid hs10
            clear h10 hs10
            go_wp2_with fail
            refine (on_nil HS10.out).mono ?_
            rintro e w11 ⟨rfl, h11, hs11⟩
            have HS11 : Hid (Sees (Oth2 w1 w2 w3 w5 w6) (w1.heap.size + 1) w1.heap.size (kept2 M3) w11) := hid h11
            have HT11 := hid ((HT3.out.trans HT10.out).trans hs11)
            have R411 := hid (row_stays HT11.out H48.out (fun g hg => Or.inl (hO4.out g hg)))
            have R611 := hid (row_stays HT11.out H68.out hO6.out)
            have BB : Below w.heap.size w w11 := by
              have b1 := HB1.out
              have b3 := (b1.trans (HB2.out.mono b1.size)).trans (HB3.out.mono (Nat.le_trans b1.size HB2.out.size))
              have b5 := b3.trans (HST.out.below b3.size (fun k hk => Or.inl (Nat.lt_of_lt_of_le hk b1.size)))
              have b6 := b5.trans (HB6.out.mono b5.size)
              have b8 := b6.trans (HT8.out.below b6.size (fun k hk => Or.inl (Or.inl (Nat.lt_of_lt_of_le hk b1.size))))
              exact b8.trans (HT11.out.below b8.size (fun k hk => Or.inl (Or.inl (Nat.lt_of_lt_of_le hk b1.size))))
            have HBB := hid BB
            clear h11 hs11 BB
            go_wp2_with fail
            go_loopw [9] (fun i wq => ∃ k : Nat, k ≤ N.length ∧ i = .int .i64 k ∧ Below w11.heap.size w11 wq) (fun i _ => N.length - (intOf i).toNat)
            case atStart => exact ⟨0, Nat.zero_le _, rfl, Below.refl _ _⟩
            case round =>
              obtain ⟨k, hk, rfl, hbq⟩ := hrel
              have HBQ := hid hbq
              clear hbq
              by_cases hlt : k < N.length
              · obtain ⟨g4, e4, c4⟩ := row_cell R411.out hlt
                obtain ⟨g6, e6, c6⟩ := row_cell R611.out hlt
                have b4 := (R411.out.lt g4 (by rw [e4]; rfl)).2
                have b6 := (R611.out.lt g6 (by rw [e6]; rfl)).2
                subst e4 e6
                obtain ⟨hn1, hn2⟩ := hfitN.out _ (List.getElem_mem hlt)
                have hnl : (⟨N[k].toArray⟩ : ByteArray).size ≤ maxLen := by show N[k].toArray.size ≤ maxLen; unfold maxLen; simp; omega
                have C4 : ∀ wx, Below w11.heap.size w11 wx → wx.cell? ⟨g4, k, none⟩ = some (.string ⟨N[k].toArray⟩) := fun wx hx => (hx.cell (p := ⟨g4, k, none⟩) b4).trans (by rw [c4, List.getElem?_map, List.getElem?_eq_getElem hlt]; rfl)
                have C6 : ∀ wx, Below w11.heap.size w11 wx → wx.cell? ⟨g6, k, none⟩ = some (.string ⟨(Mk.bytes N[k]).toArray⟩) := fun wx hx => (hx.cell (p := ⟨g6, k, none⟩) b6).trans (by rw [c6, List.getElem?_map, List.getElem?_eq_getElem hlt]; rfl)
                have hby := KB.out N[k] (List.getElem_mem hlt)
                have By : ∀ wx, Below w11.heap.size w11 wx → Calls Try.prog 33 #[ptr (w1.heap.size + 1), .string ⟨N[k].toArray⟩] wx fun e w' => e = .returned (.string ⟨(Mk.bytes N[k]).toArray⟩) ∧ Below wx.heap.size wx w' := fun wx hx => by
                  have h := bytes_sees (HS11.out.kept hx) ⟨N[k].toArray⟩ hnl
                  rw [← hby]
                  exact h
                generalize N[k] = nm at *
                have D4 := hid C4
                have D6 := hid C6
                have DB := hid By
                clear C4 C6 By hnl b4 b6 c4 c6 hby hn1 hn2
                go_wp2_with fail
                refine wp_region_quiet_in (fun wx => Below w11.heap.size w11 wx) (by kernel_rfl) (by kernel_rfl) HBQ.out.drew ?_
                go_big_quiet_want
                go_big_quiet_op
                go_big_quiet_on
                go_big_quiet_want
                go_big_quiet_op
                go_big_quiet_on
                go_big_quiet_want
                go_big_quiet_op
                go_big_quiet_on
                go_big_quiet_want
                go_big_quiet_op
                apply Exists.intro
                refine ⟨fun _ _ => ?_, ?_⟩
                · with_reducible exact Eq.refl _
                go_big_quiet_on
                go_big_quiet_want
                go_big_quiet_op
                refine ⟨.string ⟨nm.toArray⟩, fun wx hx => ?_, ?_⟩
                · have c := D4.out wx hx
                  simp [go_sem, c]
                go_big_quiet_on
                go_big_quiet_want
                go_big_quiet_op
                refine ⟨.string ⟨(Mk.bytes nm).toArray⟩, fun wx hx => ?_, ?_⟩
                · refine (DB.out wx hx).mono ?_
                  rintro e w3 ⟨rfl, hb3⟩
                  exact ⟨rfl, hx.trans (hb3.mono hx.size)⟩
                go_big_quiet_on
                go_big_quiet_want
                go_big_quiet_op
                go_big_quiet_on
                go_big_quiet_want
                go_big_quiet_op
                go_big_quiet_on
                go_big_quiet_want
                go_big_quiet_op
                apply Exists.intro
                refine ⟨fun _ _ => ?_, ?_⟩
                · with_reducible exact Eq.refl _
                go_big_quiet_on
                go_big_quiet_want
                go_big_quiet_op
                refine ⟨.string ⟨(Mk.bytes nm).toArray⟩, fun wx hx => ?_, ?_⟩
                · have c := D6.out wx hx
                  simp [go_sem, c]
                go_big_quiet_on
                go_big_quiet_want
                go_big_quiet_op
                apply Exists.intro
                refine ⟨fun _ _ => ?_, ?_⟩
                · with_reducible exact Eq.refl _
                go_big_quiet_on
                refine wpQuiet_nil ?_
                intro wq hq
                have HQ := hid hq
                clear hq
                go_wp2
                go_roundw
                case rel => exact ⟨k + 1, by omega, by go_num, HQ.out⟩
                case measure => simp [intOf]; omega
              · obtain rfl : k = N.length := by omega
                have S12 := HS11.out.kept HBQ.out
                go_wp2_with fail
                refine (names_sees S12).mono ?_
                rintro e w12 ⟨v98, rfl, r98, hb12⟩
                rw [KN.out] at r98
                have sa := hid (StrsAt.of_row r98 (by omega))
                have sb := hid (StrsAt.of_row (row_kept (row_kept R411.out (Chg.of_below HBQ.out) (F := fun _ => False) (fun _ _ h => h)) (Chg.of_below hb12) (F := fun _ => False) (fun _ _ h => h)) (by omega))
                have BE := hid ((HBB.out.trans (HBQ.out.mono HBB.out.size)).trans (hb12.mono (Nat.le_trans HBB.out.size HBQ.out.size)))
                clear r98 hb12 S12
                go_wp2_with fail
                refine (same_yes _ _ _ N sa.out sb.out).mono ?_
                rintro e w' ⟨rfl, q, rfl⟩
                clear sa sb
                go_wp2
                go_ret
                exact ⟨rfl, below_drewN BE.out q⟩

end diskKept
end Go.Proofs.Ytfgaoopgnpigjaa
