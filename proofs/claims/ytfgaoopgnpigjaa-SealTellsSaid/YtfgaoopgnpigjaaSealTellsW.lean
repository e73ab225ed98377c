/-
  The walk of SealTells: it answers true; the old memory stays.
-/
import Derived.Test.YtfgaoopgnpigjaaSealBackW
import Derived.Laws.Strings
namespace Go.Proofs.Ytfgaoopgnpigjaa.sealTells
open Go.RowKit Go.Proofs.Ytfgaoopgnpigjaa.Seal
open Num (hid)

/-- The group's block. -/
def Grp (b : Nat) (g0 g1 g2 g3 : UInt8) (wx : World) : Prop := wx.heap[b]? = some (.cells #[.int .u8 (g0.toNat : Int), .int .u8 (g1.toNat : Int), .int .u8 (g2.toNat : Int), .int .u8 (g3.toNat : Int)] 36 (0, 0))
theorem grp_new (g0 g1 g2 g3 : UInt8) (w : World) (o : Obj) : Grp (w.heap.size + 1) g0 g1 g2 g3 ((w.alloc o).alloc (.cells #[.int .u8 (g0.toNat : Int), .int .u8 (g1.toNat : Int), .int .u8 (g2.toNat : Int), .int .u8 (g3.toNat : Int)] 36)) := by
  have h := heap_alloc_new (w.alloc o) (.cells #[.int .u8 (g0.toNat : Int), .int .u8 (g1.toNat : Int), .int .u8 (g2.toNat : Int), .int .u8 (g3.toNat : Int)] 36)
  have e : (w.alloc o).heap.size = w.heap.size + 1 := by simp
  rw [e] at h
  exact h
theorem Grp.on {b : Nat} {g0 g1 g2 g3 : UInt8} {w1 w2 : World} (h : Grp b g0 g1 g2 g3 w1) (hb : Below w1.heap.size w1 w2) : Grp b g0 g1 g2 g3 w2 := (hb.block _ (lt_of_block h)).trans h
theorem Grp.other {b : Nat} {g0 g1 g2 g3 : UInt8} {w1 : World} (h : Grp (b + 1) g0 g1 g2 g3 w1) (v : Value) (j : Nat) : Grp (b + 1) g0 g1 g2 g3 (w1.setCell ⟨b, j, none⟩ v) := by
  unfold Grp at *
  rw [Below.heap_setCell w1 ⟨b, j, none⟩ v (b + 1) (by simp)]
  exact h
theorem conv_g {b : Nat} {g0 g1 g2 g3 : UInt8} {wx : World} (h : Grp b g0 g1 g2 g3 wx) :
    (convert 38 9 (.slice (some ⟨b, 0, none⟩) 4 4)).run Try.prog wx = .ok (.string ⟨#[g0, g1, g2, g3]⟩) wx :=
  run_convert_bytes_back (P := Try.prog) wx 38 9 5 ⟨b, 0, none⟩ 4 [g0, g1, g2, g3] Try.underlying38 Try.underlying5 Try.underlying9 (fun j hj => by
    rw [Addr.add_lit, cell_at h]
    match j, hj with
    | 0, _ => rfl
    | 1, _ => rfl
    | 2, _ => rfl
    | 3, _ => rfl)

/-- The group's place. -/
def place (v : Int) : Nat := 4 * (v % 64).toNat
theorem place_ok (v : Int) : place v % 4 = 0 ∧ place v + 4 ≤ 256 := by unfold place; omega

/-- A sector of which a group is changed. -/
def turnedS (a : ByteArray) (g0 g1 g2 g3 : UInt8) (k : Nat) : ByteArray := a.extract 0 k ++ ⟨#[g0, g1, g2, g3]⟩ ++ a.extract (k + 4) a.size
theorem turnedS_list (a : ByteArray) (g0 g1 g2 g3 : UInt8) (k : Nat) : (turnedS a g0 g1 g2 g3 k).data.toList = turned a.data.toList [g0, g1, g2, g3] k := by
  unfold turnedS turned
  have e1 : (a.extract 0 k).data.toList = a.data.toList.take k := by simp [ByteArray.data_extract]
  have e2 : (a.extract (k + 4) a.size).data.toList = a.data.toList.drop (k + 4) := by
    simp [ByteArray.data_extract]
    exact List.take_of_length_le (by simp)
  have e3 : (a.extract 0 k ++ ⟨#[g0, g1, g2, g3]⟩ ++ a.extract (k + 4) a.size).data.toList = (a.extract 0 k).data.toList ++ [g0, g1, g2, g3] ++ (a.extract (k + 4) a.size).data.toList := by simp
  rw [e3, e1, e2]
theorem turnedS_size (a : ByteArray) (g0 g1 g2 g3 : UInt8) (k : Nat) (h : a.size = 256) (hk : k + 4 ≤ 256) : (turnedS a g0 g1 g2 g3 k).size = 256 := by
  have e := congrArg List.length (turnedS_list a g0 g1 g2 g3 k)
  rw [turned_len _ _ _ rfl (by simp; omega)] at e
  simpa [h] using e
theorem turnedS_tells (a : ByteArray) (g0 g1 g2 g3 : UInt8) (k : Nat) (h : a.size = 256) (hr : right a.data.toList) (hk : k % 4 = 0) (hk2 : k + 4 ≤ 256) : right (turnedS a g0 g1 g2 g3 k).data.toList ↔ a = turnedS a g0 g1 g2 g3 k := by
  rw [turnedS_list, tells _ _ _ (by simpa using h) hr rfl hk hk2, ← turnedS_list]
  constructor
  · intro e
    apply ByteArray.ext
    apply Array.ext'
    exact e.symm
  · intro e
    rw [← e]

theorem place_is (v : Int) : wrap64 (4 * wrap64 ((IntKind.u64.wrap v).tmod 64)) = ((place v : Nat) : Int) := by
  rw [Num.wrap_u, Int.tmod_eq_emod_of_nonneg (by omega), Num.wrap_i, Num.wrap_i]
  unfold place
  omega
structure Cls2 (w : World) (g0 g1 g2 g3 : UInt8) (wx : World) : Prop where
  grp : Grp (w.heap.size + 1) g0 g1 g2 g3 wx
  below : Below w.heap.size w wx
theorem Cls2.drew {w : World} {g0 g1 g2 g3 : UInt8} {wx : World} (h : Cls2 w g0 g1 g2 g3 wx) : Cls2 w g0 g1 g2 g3 wx.drew := ⟨h.grp, h.below.drew⟩

set_option maxRecDepth 100000 in
set_option maxHeartbeats 2000000 in
theorem walk (K N S0 : Int) (d : ByteArray) (at0 : Int) (g0 g1 g2 g3 : UInt8) (_ : (Lit.int .i64 K).wf = true) (_ : (Lit.int .i64 N).wf = true) (wS : (Lit.int .u64 S0).wf = true) (_ : (Lit.int .i64 at0).wf = true) (w : World) :
    Calls Try.prog 6 #[.agg #[.int .i64 K, .int .i64 N, .int .u64 S0, .string d], .int .i64 at0, .agg #[.int .u8 (g0.toNat : Int), .int .u8 (g1.toNat : Int), .int .u8 (g2.toNat : Int), .int .u8 (g3.toNat : Int)]] w fun e w' => e = .returned (.bool true) ∧ Below w.heap.size w w' := by
  obtain ⟨S, hS, rfl⟩ := Num.nat_u64 wS
  have HS := hid hS
  clear hS wS
  go_enter Try.func6, Try.ntmps6
  go_wp2_with fail
  refine (awake_any _).mono ?_
  rintro e w1 ⟨rfl, hb1⟩
  have F1 : Four w.heap.size K N S d ((w.alloc (.cells #[.int .i64 K, .int .i64 N, .int .u64 S, .string d] 24)).alloc (.cells #[.int .u8 (g0.toNat : Int), .int .u8 (g1.toNat : Int), .int .u8 (g2.toNat : Int), .int .u8 (g3.toNat : Int)] 36)) := Four.on (heap_alloc_new w _) ((Below.refl _ _).alloc (Nat.le_refl _) _)
  have A1 : Grp (w.heap.size + 1) g0 g1 g2 g3 ((w.alloc (.cells #[.int .i64 K, .int .i64 N, .int .u64 S, .string d] 24)).alloc (.cells #[.int .u8 (g0.toNat : Int), .int .u8 (g1.toNat : Int), .int .u8 (g2.toNat : Int), .int .u8 (g3.toNat : Int)] 36)) := grp_new _ _ _ _ _ _
  have F2 := F1.on hb1
  have A2 := A1.on hb1
  have B2 : Below w.heap.size w w1 := (((Below.refl _ _).alloc (Nat.le_refl _) _).alloc (by simp) _).trans (hb1.mono (by simp; omega))
  clear A1
  clear hb1 F1
  obtain ⟨k0, k1, k2, k3⟩ := F2.cells
  go_wp2_with fail
  refine (full_any d _).mono ?_
  rintro e w2 ⟨rfl, hb2⟩
  obtain ⟨D, hD⟩ : ∃ D, D = full d := ⟨_, rfl⟩
  have hd : D.size = 232 := by rw [hD]; exact full_size _
  rw [← hD]
  clear hD
  have HD := hid hd
  clear hd
  have F3 := F2.on hb2
  have A3 := A2.on hb2
  have B3 := B2.trans (hb2.mono B2.size)
  have z0 := F3.free 0
  have z1 := F3.free 1
  have z3 := F3.free 3
  clear F2 A2 B2 hb2 k0 k1 k2 k3
  obtain ⟨k0, k1, k2, k3⟩ := F3.cells
  have A4 := ((A3.other (.string D) 3).other (.int .i64 (low32 K)) 0).other (.int .i64 (low32 N)) 1
  have F4 := ((F3.store3 D).store0 (low32 K)).store1 (low32 N)
  have B4 := ((B3.setCell (p := ⟨w.heap.size, 3, none⟩) (Nat.le_refl _) (.string D)).setCell (p := ⟨w.heap.size, 0, none⟩) (Nat.le_refl _) (.int .i64 (low32 K))).setCell (p := ⟨w.heap.size, 1, none⟩) (Nat.le_refl _) (.int .i64 (low32 N))
  have a0 := and_low K
  have a1 := and_low N
  go_wp2_with fail
  have hK := low32_lt K
  have hN := low32_lt N
  refine (close_yes (low32 K) (low32 N) S hK hN HS.out D HD.out _).mono ?_
  rintro e w3 ⟨rfl, hb3⟩
  have A5 := A4.on hb3
  have B5 := B4.trans (hb3.mono B4.size)
  obtain ⟨_, _, _, _, hR, hsz⟩ := part_sealS (low32 K) (low32 N) S D hK hN HS.out HD.out
  clear F4 A4 A3 B4 hb3 k0 k1 k2 k3 z0 z1 z3 a0 a1 F3 B3
  generalize sealS (low32 K) (low32 N) S D = a at hR hsz ⊢
  go_wp2_with fail
  obtain ⟨p1, p2⟩ := place_ok at0
  rw [place_is at0]
  generalize place at0 = k at p1 p2 ⊢
  have ht := hid (turnedS_tells a g0 g1 g2 g3 k hsz hR p1 p2)
  have hts := hid (turnedS_size a g0 g1 g2 g3 k hsz p2)
  have HR := hid hR
  have HZ := hid hsz
  have q1 : (k : Int) ≤ (a.size : Int) := by omega
  have q2 : k ≤ a.size := by omega
  have q3 : (k : Int) + 4 ≤ (a.size : Int) := by omega
  have q4 : k + 4 ≤ a.size := by omega
  have q5 : a.size ≤ 256 := by omega
  have q6 : 0 ≤ (k : Int) := by omega
  have q7 : 0 ≤ (k : Int) + 4 := by omega
  have e1 : IntKind.i64.wrap ((k : Int) + 4) = (k : Int) + 4 := by rw [IntKind.wrap_i64]; omega
  have e2 : ((k : Int) + 4).toNat = k + 4 := by omega
  have C3 : Cls2 w g0 g1 g2 g3 w3 := ⟨A5, B5⟩
  clear hsz hR p1 p2
  refine wp_region_quiet_in (Cls2 w g0 g1 g2 g3) (by kernel_rfl) (by kernel_rfl) C3.drew ?_
  go_big_quiet_want
  go_big_quiet_op
  go_big_quiet_on
  go_big_quiet_want
  go_big_quiet_op
  go_big_quiet_on
  go_big_quiet_want
  go_big_quiet_op
  apply Exists.intro
  refine ⟨fun _ _ => ?_, ?_⟩
  · with_reducible exact Eq.refl _
  go_big_quiet_on
  go_big_quiet_want
  go_big_quiet_op
  apply Exists.intro
  refine ⟨fun _ _ => ?_, ?_⟩
  · with_reducible exact Eq.refl _
  go_big_quiet_on
  go_big_quiet_want
  go_big_quiet_op
  refine ⟨.string ⟨#[g0, g1, g2, g3]⟩, fun wx hx => ?_, ?_⟩
  · rw [conv_g hx.grp]
    exact ⟨rfl, rfl⟩
  go_big_quiet_on
  go_big_quiet_want
  go_big_quiet_op
  apply Exists.intro
  refine ⟨fun _ _ => ?_, ?_⟩
  · with_reducible exact Eq.refl _
  go_big_quiet_on
  go_big_quiet_want
  go_big_quiet_op
  go_big_quiet_on
  go_big_quiet_want
  go_big_quiet_op
  go_big_quiet_on
  go_big_quiet_want
  go_big_quiet_op
  apply Exists.intro
  refine ⟨fun _ _ => ?_, ?_⟩
  · with_reducible exact Eq.refl _
  go_big_quiet_on
  go_big_quiet_want
  go_big_quiet_op
  apply Exists.intro
  refine ⟨fun _ _ => ?_, ?_⟩
  · with_reducible exact Eq.refl _
  go_big_quiet_on
  go_big_quiet_want
  go_big_quiet_op
  apply Exists.intro
  refine ⟨fun _ _ => ?_, ?_⟩
  · with_reducible exact Eq.refl _
  go_big_quiet_on
  go_big_quiet_want
  go_big_quiet_op
  go_big_quiet_on
  refine wpQuiet_nil ?_
  intro w4 C4
  have B6 := C4.below
  clear C3 C4 A5 B5 q1 q2 q3 q4 q5 q6 q7 e1 e2
  have eb : a.extract 0 k ++ ⟨#[g0, g1, g2, g3]⟩ ++ a.extract (k + 4) a.size = turnedS a g0 g1 g2 g3 k := rfl
  rw [eb]
  generalize turnedS a g0 g1 g2 g3 k = b at ht hts ⊢
  by_cases hb : right b.data.toList
  · have hyes : ∀ W : World, Calls Try.prog 18 #[.string b] W fun e w' => e = .returned (.tuple #[.agg #[.int .i64 (Seal.part b 232 236 : Nat), .int .i64 (Seal.part b 236 240 : Nat), .int .u64 (Seal.part b 240 248 : Nat), .string (b.extract 0 232)], .int .i64 0]) ∧ Below W.heap.size W w' := open_good b hts.out hb
    have hac : (a.toList == b.toList) = true := by rw [ht.out.1 hb]; exact beq_self_eq_true _
    clear hb
    go_wp2_with fail
    refine (hyes _).mono ?_
    rintro e w5 ⟨rfl, hb5⟩
    have B7 : Below w.heap.size w (w5.alloc (.cells #[.int .i64 (Seal.part b 232 236 : Nat), .int .i64 (Seal.part b 236 240 : Nat), .int .u64 (Seal.part b 240 248 : Nat), .string (b.extract 0 232)] 24)) := (B6.trans (hb5.mono B6.size)).alloc (Nat.le_trans B6.size hb5.size) _
    clear hb5 B6 hyes
    go_wp2
    go_ret
    exact ⟨rfl, B7⟩
  · have hno : ∀ W : World, Calls Try.prog 18 #[.string b] W fun e w' => e = .returned (.tuple #[.agg #[.int .i64 0, .int .i64 0, .int .u64 0, .string ⟨#[]⟩], .int .i64 20]) ∧ Below W.heap.size W w' := open_bad b hts.out hb
    have hac : (a.toList == b.toList) = false := by
      have hne : ¬ a.toList = b.toList := fun h => by
        rw [ByteArray.toList_eq, ByteArray.toList_eq] at h
        exact hb (ht.out.2 (ByteArray.ext (Array.ext' h)))
      simpa using hne
    clear hb
    go_wp2_with fail
    refine (hno _).mono ?_
    rintro e w5 ⟨rfl, hb5⟩
    have B7 : Below w.heap.size w (w5.alloc (.cells #[.int .i64 0, .int .i64 0, .int .u64 0, .string ⟨#[]⟩] 24)) := (B6.trans (hb5.mono B6.size)).alloc (Nat.le_trans B6.size hb5.size) _
    clear hb5 B6 hno
    go_wp2
    go_ret
    exact ⟨rfl, B7⟩

end Go.Proofs.Ytfgaoopgnpigjaa.sealTells
