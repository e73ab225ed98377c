/-
  Contracts of the statements' own calls on a disk: what an act writes; an act.
-/
import Derived.Test.YtiomojidfkpagaaDiskLoad
import Derived.IntWalk
namespace Go.Proofs.Ytiomojidfkpagaa
open Go.RowKit
namespace Disk
open Num (hid bcells)

abbrev tAct : TypeId := 33
/-- An act, as it is handed over. -/
structure ActM where
  kind : Int
  name : ByteArray
  n : Int
  fill : UInt8
  len : Int
  fv : Value
  fates : List Int
def ActM.cells (x : ActM) : Array Value := #[.int .i64 x.kind, .string x.name, .int .i64 x.n, .int .u8 (x.fill.toNat : Int), .int .i64 x.len, x.fv]
def ActM.size (x : ActM) : Nat := (IntKind.u64.wrap x.len).toNat % 700
def ActM.data (x : ActM) : List UInt8 := List.replicate x.size x.fill
theorem u64_nat (a : Int) : IntKind.u64.wrap a = ((IntKind.u64.wrap a).toNat : Int) := by
  have : IntKind.u64.wrap a = a % 18446744073709551616 := IntKind.wrap_u64 a
  omega

set_option maxRecDepth 100000 in
set_option maxHeartbeats 1000000 in
theorem data_any (kind n len : Int) (name : ByteArray) (fill : UInt8) (ao : Option Addr) (nn cap : Nat) (fates : List Int) (w : World) :
    Calls Try.prog 50 #[.agg #[.int .i64 kind, .string name, .int .i64 n, .int .u8 (fill.toNat : Int), .int .i64 len, .slice ao nn cap]] w fun e w' => e = .returned (.string ⟨(ActM.data ⟨kind, name, n, fill, len, .slice ao nn cap, fates⟩).toArray⟩) ∧ Below w.heap.size w w' := by
  have hx := u64_nat len
  have hdat : ActM.data ⟨kind, name, n, fill, len, .slice ao nn cap, fates⟩ = List.replicate ((IntKind.u64.wrap len).toNat % 700) fill := rfl
  rw [hdat]
  clear hdat
  generalize (IntKind.u64.wrap len).toNat = x at hx ⊢
  have hxm : ((x : Int) % 700) = ((x % 700 : Nat) : Int) := by omega
  have hz : x % 700 ≤ 699 := by omega
  have HXM := hid hxm
  clear hxm
  obtain ⟨w1, hmk, hrow, hb⟩ := make_row (w.alloc (.cells #[.int .i64 kind, .string name, .int .i64 n, .int .u8 (fill.toNat : Int), .int .i64 len, .slice ao nn cap] tAct)) (x % 700) (by omega)
  have H0 : Hid (Filled (w.alloc (.cells #[.int .i64 kind, .string name, .int .i64 n, .int .u8 (fill.toNat : Int), .int .i64 len, .slice ao nn cap] tAct)) (w.alloc (.cells #[.int .i64 kind, .string name, .int .i64 n, .int .u8 (fill.toNat : Int), .int .i64 len, .slice ao nn cap] tAct)).heap.size (x % 700) fill 0 w1) := hid ⟨by rw [fill_zero]; exact hrow, hb⟩
  have hcell : (w.alloc (.cells #[.int .i64 kind, .string name, .int .i64 n, .int .u8 (fill.toNat : Int), .int .i64 len, .slice ao nn cap] tAct)).cell? ⟨w.heap.size, 3, none⟩ = some (.int .u8 (fill.toNat : Int)) := blk_cell (blk_new w _) 3
  have HC := hid hcell
  have hmk2 : (Instr.makeSlice 103 (.int .i64 ((x : Int) % 700)) (.int .i64 ((x : Int) % 700))).run Try.prog (w.alloc (.cells #[.int .i64 kind, .string name, .int .i64 n, .int .u8 (fill.toNat : Int), .int .i64 len, .slice ao nn cap] tAct)) = .ok (.slice (some ⟨w.heap.size + 1, 0, none⟩) (x % 700) (x % 700)) w1 := by
    rw [HXM.out, hmk]
    simp
  have hsz : (w.alloc (.cells #[.int .i64 kind, .string name, .int .i64 n, .int .u8 (fill.toNat : Int), .int .i64 len, .slice ao nn cap] tAct)).heap.size = w.heap.size + 1 := by simp
  rw [hsz] at H0
  have HSZ := hid hsz
  clear hrow hb hmk hcell hsz
  generalize x % 700 = z at *
  go_enter Try.func50, Try.ntmps50
  go_wp2
  rw [HXM.out]
  clear hx hmk2
  go_loopw [5] (fun i wr => ∃ k : Nat, k ≤ z ∧ i = .int .i64 k ∧ Filled (w.alloc (.cells #[.int .i64 kind, .string name, .int .i64 n, .int .u8 (fill.toNat : Int), .int .i64 len, .slice ao nn cap] tAct)) (w.heap.size + 1) z fill k wr) (fun i _ => z - (intOf i).toNat)
  case atStart => exact ⟨0, Nat.zero_le _, rfl, H0.out⟩
  case round =>
    obtain ⟨k, hk, rfl, hf⟩ := hrel
    have HF := hid hf
    have hA : wr.cell? ⟨w.heap.size, 3, none⟩ = some (.int .u8 (fill.toNat : Int)) := (hf.2.cell (p := ⟨w.heap.size, 3, none⟩) (by rw [HSZ.out]; exact Nat.lt_succ_self _)).trans HC.out
    by_cases hlt : k < z
    · obtain ⟨y, hc, hzf⟩ := hf.cell hlt
      clear hf
      go_wp2
      go_roundw
      case rel => exact ⟨k + 1, by omega, by go_num, HF.out.step hlt⟩
      case measure => simp [intOf]; omega
    · obtain rfl : k = z := by omega
      have hcv := conv_row (l := Disk.fill fill k k) (by rw [fill_len fill k k (Nat.le_refl _)]) hf.1
      clear hf
      go_wp2
      go_ret
      refine ⟨ret_str (fill_all fill k), ?_⟩
      have h2 := HF.out.2
      exact ((Below.refl _ w).alloc (Nat.le_refl _) _).trans (h2.mono (by rw [HSZ.out]; omega))

/-- A call: what it answers; the disk behind it. -/
def Mod.does (M : Mod) (x : ActM) : List UInt8 × Int × Mod :=
  if x.kind = 1 then M.read x.name.data.toList x.n
  else if x.kind = 2 then ([], (M.write x.name.data.toList x.n x.data).1, (M.write x.name.data.toList x.n x.data).2)
  else if x.kind = 3 then ([], (M.sync x.name.data.toList).1, (M.sync x.name.data.toList).2)
  else if x.kind = 4 then ([], (M.cut x.name.data.toList x.n).1, (M.cut x.name.data.toList x.n).2)
  else if x.kind = 5 then ([], (M.drop x.name.data.toList).1, (M.drop x.name.data.toList).2)
  else if x.kind = 6 then ([], 0, M.room x.n)
  else if x.kind = 7 then ([], 0, M.arm x.n (x.fill.toNat : Int) x.len)
  else if x.kind = 8 then ([], 0, M.off)
  else if x.kind = 9 then ([], 0, M.on x.fates)
  else if x.kind = 10 then ([], (M.load x.name.data.toList x.data).1, (M.load x.name.data.toList x.data).2)
  else ([], 0, M)

theorem load_has {N d m : Nat} {M : Mod} {w : World} (h : Has N d m M w) (s : ByteArray) (hs : s.size ≤ maxLen) (l : ByteArray) (hl : l.size ≤ maxLen) :
    Calls Try.prog 53 #[ptr d, .string s, .string l] w fun e w' => e = .returned (.int .i64 (M.load s.data.toList l.data.toList).1) ∧ Has N d m (M.load s.data.toList l.data.toList).2 w' ∧ Below N w w' := by
  obtain ⟨tag, L, D, hL, hN, hz⟩ := h
  refine (load_any tag w d m M.c L D s hs l hl).mono ?_
  rintro e w' ⟨rfl, ho⟩
  rw [hL] at ho ⊢
  exact ⟨rfl, Has.of_out ho hN hz⟩

def DoesOut (N d m : Nat) (M : Mod) (x : ActM) (w : World) (e : Ending) (w' : World) : Prop :=
  e = .returned (.tuple #[.string ⟨(M.does x).1.toArray⟩, .int .i64 (M.does x).2.1]) ∧ Has N d m (M.does x).2.2 w' ∧ Below N w w'
/-- What an act that came in is. -/
structure ActOk (N : Nat) (w : World) (x : ActM) : Prop where
  name : x.name.size ≤ maxLen
  n : x.n ≤ 9223372036854775807
  len : x.len ≤ 9223372036854775807
  ints : IntsAt w x.fv x.fates
  few : x.fates.length ≤ maxLen
  old : ∀ b o n cap, x.fv = .slice (some ⟨b, o, none⟩) n cap → n ≠ 0 → b < N
theorem ActM.shape {N : Nat} {w : World} {x : ActM} (h : ActOk N w x) : ∃ ao nn cap, x.fv = .slice ao nn cap := by
  rcases h.ints with ⟨ao, cap, hv, _⟩ | ⟨b, o, cap, hv, _⟩
  · exact ⟨ao, _, cap, hv⟩
  · exact ⟨_, _, cap, hv⟩
theorem ActM.data_size (x : ActM) : (⟨x.data.toArray⟩ : ByteArray).size ≤ maxLen := by
  have e : (⟨x.data.toArray⟩ : ByteArray).size = x.data.length := rfl
  have h2 : x.data.length = x.size := List.length_replicate ..
  have h3 : x.size < 700 := Nat.mod_lt _ (by decide)
  rw [e, h2]; unfold maxLen; omega

set_option maxRecDepth 100000 in
set_option maxHeartbeats 2000000 in
theorem does_read {N d m : Nat} {M : Mod} {w : World} (h : Has N d m M w) (x : ActM) (hx : ActOk N w x) (hk : x.kind = 1) :
    Calls Try.prog 12 #[ptr d, .agg x.cells] w (DoesOut N d m M x w) := by
  obtain ⟨ao, nn, cap, hfv⟩ := ActM.shape hx
  have H1 := hid ((h.kept ((Below.refl _ w).alloc (Nat.le_refl _) (.cells x.cells tAct))))
  have hd : M.does x = M.read x.name.data.toList x.n := by unfold Mod.does; rw [hk]; rfl
  have HD := hid hd
  have HN : Hid (N ≤ w.heap.size) := hid (by obtain ⟨_, _, _, _, _, hz⟩ := h; exact hz)
  have hnm := hx.name
  have hn := hx.n
  clear hd h hx
  obtain ⟨kind, name, n, fill, len, fv, fates⟩ := x
  simp only at hk hfv hnm hn
  subst hk
  subst hfv
  unfold ActM.cells at H1 ⊢
  simp only at H1 ⊢
  go_enter Try.func12, Try.ntmps12
  go_wp2_with fail
  refine (read_has H1.out name hnm n hn).mono ?_
  rintro e w2 ⟨rfl, h2, hb2⟩
  have H2 := hid h2
  have HB := hid hb2
  clear h2 hb2
  go_wp2
  go_ret2
  unfold DoesOut
  rw [HD.out]
  exact ⟨rfl, H2.out, ((Below.refl _ w).alloc HN.out _).trans HB.out⟩

set_option maxRecDepth 100000 in
set_option maxHeartbeats 2000000 in
theorem does_sync {N d m : Nat} {M : Mod} {w : World} (h : Has N d m M w) (x : ActM) (hx : ActOk N w x) (hk : x.kind = 3) :
    Calls Try.prog 12 #[ptr d, .agg x.cells] w (DoesOut N d m M x w) := by
  obtain ⟨ao, nn, cap, hfv⟩ := ActM.shape hx
  have H1 := hid ((h.kept ((Below.refl _ w).alloc (Nat.le_refl _) (.cells x.cells tAct))))
  have hd : M.does x = ([], (M.sync x.name.data.toList).1, (M.sync x.name.data.toList).2) := by unfold Mod.does; rw [hk]; rfl
  have HD := hid hd
  have HN : Hid (N ≤ w.heap.size) := hid (by obtain ⟨_, _, _, _, _, hz⟩ := h; exact hz)
  have hnm := hx.name
  clear hd h hx
  obtain ⟨kind, name, n, fill, len, fv, fates⟩ := x
  simp only at hk hfv hnm
  subst hk
  subst hfv
  unfold ActM.cells at H1 ⊢
  simp only at H1 ⊢
  go_enter Try.func12, Try.ntmps12
  go_wp2_with fail
  refine (sync_has H1.out name hnm).mono ?_
  rintro e w2 ⟨rfl, h2, hb2⟩
  have H2 := hid h2
  have HB := hid hb2
  clear h2 hb2
  go_wp2
  go_ret2
  unfold DoesOut
  rw [HD.out]
  exact ⟨rfl, H2.out, ((Below.refl _ w).alloc HN.out _).trans HB.out⟩

set_option maxRecDepth 100000 in
set_option maxHeartbeats 2000000 in
theorem does_cut {N d m : Nat} {M : Mod} {w : World} (h : Has N d m M w) (x : ActM) (hx : ActOk N w x) (hk : x.kind = 4) :
    Calls Try.prog 12 #[ptr d, .agg x.cells] w (DoesOut N d m M x w) := by
  obtain ⟨ao, nn, cap, hfv⟩ := ActM.shape hx
  have H1 := hid ((h.kept ((Below.refl _ w).alloc (Nat.le_refl _) (.cells x.cells tAct))))
  have hd : M.does x = ([], (M.cut x.name.data.toList x.n).1, (M.cut x.name.data.toList x.n).2) := by unfold Mod.does; rw [hk]; rfl
  have HD := hid hd
  have HN : Hid (N ≤ w.heap.size) := hid (by obtain ⟨_, _, _, _, _, hz⟩ := h; exact hz)
  have hnm := hx.name
  clear hd h hx
  obtain ⟨kind, name, n, fill, len, fv, fates⟩ := x
  simp only at hk hfv hnm
  subst hk
  subst hfv
  unfold ActM.cells at H1 ⊢
  simp only at H1 ⊢
  go_enter Try.func12, Try.ntmps12
  go_wp2_with fail
  refine (cut_has H1.out name hnm n).mono ?_
  rintro e w2 ⟨rfl, h2, hb2⟩
  have H2 := hid h2
  have HB := hid hb2
  clear h2 hb2
  go_wp2
  go_ret2
  unfold DoesOut
  rw [HD.out]
  exact ⟨rfl, H2.out, ((Below.refl _ w).alloc HN.out _).trans HB.out⟩

set_option maxRecDepth 100000 in
set_option maxHeartbeats 2000000 in
theorem does_drop {N d m : Nat} {M : Mod} {w : World} (h : Has N d m M w) (x : ActM) (hx : ActOk N w x) (hk : x.kind = 5) :
    Calls Try.prog 12 #[ptr d, .agg x.cells] w (DoesOut N d m M x w) := by
  obtain ⟨ao, nn, cap, hfv⟩ := ActM.shape hx
  have H1 := hid ((h.kept ((Below.refl _ w).alloc (Nat.le_refl _) (.cells x.cells tAct))))
  have hd : M.does x = ([], (M.drop x.name.data.toList).1, (M.drop x.name.data.toList).2) := by unfold Mod.does; rw [hk]; rfl
  have HD := hid hd
  have HN : Hid (N ≤ w.heap.size) := hid (by obtain ⟨_, _, _, _, _, hz⟩ := h; exact hz)
  have hnm := hx.name
  clear hd h hx
  obtain ⟨kind, name, n, fill, len, fv, fates⟩ := x
  simp only at hk hfv hnm
  subst hk
  subst hfv
  unfold ActM.cells at H1 ⊢
  simp only at H1 ⊢
  go_enter Try.func12, Try.ntmps12
  go_wp2_with fail
  refine (drop_has H1.out name hnm).mono ?_
  rintro e w2 ⟨rfl, h2, hb2⟩
  have H2 := hid h2
  have HB := hid hb2
  clear h2 hb2
  go_wp2
  go_ret2
  unfold DoesOut
  rw [HD.out]
  exact ⟨rfl, H2.out, ((Below.refl _ w).alloc HN.out _).trans HB.out⟩

set_option maxRecDepth 100000 in
set_option maxHeartbeats 2000000 in
theorem does_room {N d m : Nat} {M : Mod} {w : World} (h : Has N d m M w) (x : ActM) (hx : ActOk N w x) (hk : x.kind = 6) :
    Calls Try.prog 12 #[ptr d, .agg x.cells] w (DoesOut N d m M x w) := by
  obtain ⟨ao, nn, cap, hfv⟩ := ActM.shape hx
  have H1 := hid ((h.kept ((Below.refl _ w).alloc (Nat.le_refl _) (.cells x.cells tAct))))
  have hd : M.does x = ([], 0, M.room x.n) := by unfold Mod.does; rw [hk]; rfl
  have HD := hid hd
  have HN : Hid (N ≤ w.heap.size) := hid (by obtain ⟨_, _, _, _, _, hz⟩ := h; exact hz)
  have hnm := hx.name
  clear hd h hx
  obtain ⟨kind, name, n, fill, len, fv, fates⟩ := x
  simp only at hk hfv hnm
  subst hk
  subst hfv
  unfold ActM.cells at H1 ⊢
  simp only at H1 ⊢
  go_enter Try.func12, Try.ntmps12
  go_wp2_with fail
  refine (room_has H1.out n).mono ?_
  rintro e w2 ⟨rfl, h2, hb2⟩
  have H2 := hid h2
  have HB := hid hb2
  clear h2 hb2
  go_wp2
  go_ret2
  unfold DoesOut
  rw [HD.out]
  exact ⟨rfl, H2.out, ((Below.refl _ w).alloc HN.out _).trans HB.out⟩

set_option maxRecDepth 100000 in
set_option maxHeartbeats 2000000 in
theorem does_arm {N d m : Nat} {M : Mod} {w : World} (h : Has N d m M w) (x : ActM) (hx : ActOk N w x) (hk : x.kind = 7) :
    Calls Try.prog 12 #[ptr d, .agg x.cells] w (DoesOut N d m M x w) := by
  obtain ⟨ao, nn, cap, hfv⟩ := ActM.shape hx
  have H1 := hid ((h.kept ((Below.refl _ w).alloc (Nat.le_refl _) (.cells x.cells tAct))))
  have hd : M.does x = ([], 0, M.arm x.n (x.fill.toNat : Int) x.len) := by unfold Mod.does; rw [hk]; rfl
  have HD := hid hd
  have HN : Hid (N ≤ w.heap.size) := hid (by obtain ⟨_, _, _, _, _, hz⟩ := h; exact hz)
  have hn := hx.n
  have hlen := hx.len
  have hfl : (x.fill.toNat : Int) ≤ 255 := by have := x.fill.toNat_lt; omega
  clear hd h hx
  obtain ⟨kind, name, n, fill, len, fv, fates⟩ := x
  simp only at hk hfv hn hlen hfl
  subst hk
  subst hfv
  unfold ActM.cells at H1 ⊢
  simp only at H1 ⊢
  go_enter Try.func12, Try.ntmps12
  go_wp2_with fail
  refine (arm_has H1.out n (fill.toNat : Int) len hn hlen).mono ?_
  rintro e w2 ⟨rfl, h2, hb2⟩
  have H2 := hid h2
  have HB := hid hb2
  clear h2 hb2
  go_wp2
  go_ret2
  unfold DoesOut
  rw [HD.out]
  exact ⟨rfl, H2.out, ((Below.refl _ w).alloc HN.out _).trans HB.out⟩

set_option maxRecDepth 100000 in
set_option maxHeartbeats 2000000 in
theorem does_off {N d m : Nat} {M : Mod} {w : World} (h : Has N d m M w) (x : ActM) (hx : ActOk N w x) (hk : x.kind = 8) :
    Calls Try.prog 12 #[ptr d, .agg x.cells] w (DoesOut N d m M x w) := by
  obtain ⟨ao, nn, cap, hfv⟩ := ActM.shape hx
  have H1 := hid ((h.kept ((Below.refl _ w).alloc (Nat.le_refl _) (.cells x.cells tAct))))
  have hd : M.does x = ([], 0, M.off) := by unfold Mod.does; rw [hk]; rfl
  have HD := hid hd
  have HN : Hid (N ≤ w.heap.size) := hid (by obtain ⟨_, _, _, _, _, hz⟩ := h; exact hz)
  clear hd h hx
  obtain ⟨kind, name, n, fill, len, fv, fates⟩ := x
  simp only at hk hfv
  subst hk
  subst hfv
  unfold ActM.cells at H1 ⊢
  simp only at H1 ⊢
  go_enter Try.func12, Try.ntmps12
  go_wp2_with fail
  refine (off_has H1.out).mono ?_
  rintro e w2 ⟨rfl, h2, hb2⟩
  have H2 := hid h2
  have HB := hid hb2
  clear h2 hb2
  go_wp2
  go_ret2
  unfold DoesOut
  rw [HD.out]
  exact ⟨rfl, H2.out, ((Below.refl _ w).alloc HN.out _).trans HB.out⟩

set_option maxRecDepth 100000 in
set_option maxHeartbeats 2000000 in
theorem does_on {N d m : Nat} {M : Mod} {w : World} (h : Has N d m M w) (x : ActM) (hx : ActOk N w x) (hk : x.kind = 9) :
    Calls Try.prog 12 #[ptr d, .agg x.cells] w (DoesOut N d m M x w) := by
  obtain ⟨ao, nn, cap, hfv⟩ := ActM.shape hx
  have H1 := hid ((h.kept ((Below.refl _ w).alloc (Nat.le_refl _) (.cells x.cells tAct))))
  have hd : M.does x = ([], 0, M.on x.fates) := by unfold Mod.does; rw [hk]; rfl
  have HD := hid hd
  have HN : Hid (N ≤ w.heap.size) := hid (by obtain ⟨_, _, _, _, _, hz⟩ := h; exact hz)
  have hfew := hx.few
  have hold := hx.old
  have HI := hid (hx.ints.kept (F := fun _ => False) (Chg.of_below ((Below.refl _ w).alloc (Nat.le_refl _) (.cells x.cells tAct))) (fun _ _ _ _ _ _ h => h))
  clear hd h hx
  obtain ⟨kind, name, n, fill, len, fv, fates⟩ := x
  simp only at hk hfv hfew hold
  subst hk
  subst hfv
  unfold ActM.cells at H1 HI ⊢
  simp only at H1 HI ⊢
  go_enter Try.func12, Try.ntmps12
  go_wp2_with fail
  refine (on_has H1.out _ fates HI.out hfew hold).mono ?_
  rintro e w2 ⟨rfl, h2, hb2⟩
  have H2 := hid h2
  have HB := hid hb2
  clear h2 hb2
  go_wp2
  go_ret2
  unfold DoesOut
  rw [HD.out]
  exact ⟨rfl, H2.out, ((Below.refl _ w).alloc HN.out _).trans HB.out⟩

set_option maxRecDepth 100000 in
set_option maxHeartbeats 2000000 in
theorem does_none {N d m : Nat} {M : Mod} {w : World} (h : Has N d m M w) (x : ActM) (hx : ActOk N w x) (hk : ∀ j : Int, 1 ≤ j → j ≤ 10 → x.kind ≠ j) :
    Calls Try.prog 12 #[ptr d, .agg x.cells] w (DoesOut N d m M x w) := by
  obtain ⟨ao, nn, cap, hfv⟩ := ActM.shape hx
  have H1 := hid ((h.kept ((Below.refl _ w).alloc (Nat.le_refl _) (.cells x.cells tAct))))
  have hd : M.does x = ([], 0, M) := by
    unfold Mod.does
    rw [if_neg (hk 1 (by omega) (by omega)), if_neg (hk 2 (by omega) (by omega)), if_neg (hk 3 (by omega) (by omega)), if_neg (hk 4 (by omega) (by omega)), if_neg (hk 5 (by omega) (by omega)), if_neg (hk 6 (by omega) (by omega)), if_neg (hk 7 (by omega) (by omega)), if_neg (hk 8 (by omega) (by omega)), if_neg (hk 9 (by omega) (by omega)), if_neg (hk 10 (by omega) (by omega))]
  have HD := hid hd
  have HN : Hid (N ≤ w.heap.size) := hid (by obtain ⟨_, _, _, _, _, hz⟩ := h; exact hz)
  have b : ∀ j : Int, 1 ≤ j → j ≤ 10 → (x.kind == j) = false := fun j h1 h2 => by simpa using hk j h1 h2
  have b1 := b 1 (by omega) (by omega)
  have b2 := b 2 (by omega) (by omega)
  have b3 := b 3 (by omega) (by omega)
  have b4 := b 4 (by omega) (by omega)
  have b5 := b 5 (by omega) (by omega)
  have b6 := b 6 (by omega) (by omega)
  have b7 := b 7 (by omega) (by omega)
  have b8 := b 8 (by omega) (by omega)
  have b9 := b 9 (by omega) (by omega)
  have b10 := b 10 (by omega) (by omega)
  clear hd h hx hk b
  obtain ⟨kind, name, n, fill, len, fv, fates⟩ := x
  simp only at hfv b1 b2 b3 b4 b5 b6 b7 b8 b9 b10
  subst hfv
  unfold ActM.cells at H1 ⊢
  simp only at H1 ⊢
  go_enter Try.func12, Try.ntmps12
  go_wp2
  go_ret2
  unfold DoesOut
  rw [HD.out]
  exact ⟨rfl, H1.out, ((Below.refl _ w).alloc HN.out _)⟩

end Disk
end Go.Proofs.Ytiomojidfkpagaa
