/-
  DiskArms: the walk of the statement.
-/
import Derived.Test.YtfgaoopgnpigjaaDiskAwake
import Derived.IntWalk
namespace Go.Proofs.Ytfgaoopgnpigjaa
open Go.RowKit
namespace diskArms
open Disk
open Num (hid)

/-- A slice of bools, as it is read. -/
def BoolsAt (w : World) (N : Nat) (v : Value) (l : List Bool) : Prop :=
  (∃ ao cap, v = .slice ao 0 cap ∧ l = []) ∨ ∃ b o cap, v = .slice (some ⟨b, o, none⟩) l.length cap ∧ b < N ∧ ∀ j (h : j < l.length), w.cell? ⟨b, o + j, none⟩ = some (.bool l[j])

/-! ### what is armed, operation by operation -/
/-- Behind n operations, of which the one numbered a and more behind it have a fault. -/
structure St (a more n : Nat) (M : Mod) : Prop where
  up : M.c.down = false
  ops : M.c.ops = 1 + n
  there : ∃ F, get? M.fs [102] = some F
  ahead : n < a → M.c.kind = 1 ∧ M.c.at_ = ((a - n : Nat) : Int) ∧ M.c.more = (more : Int)
  amid : a ≤ n → n < a + more → M.c.kind = 1 ∧ M.c.at_ = 1 ∧ M.c.more = ((a + more - n - 1 : Nat) : Int)
  past : a + more ≤ n → a ≤ n → M.c.kind = 0 ∧ M.c.at_ = 0 ∧ M.c.more = 0
/-- Whether the operation of this number has it. -/
def hit (a more i : Nat) : Bool := decide (a ≤ i ∧ i ≤ a + more)

theorem inc_small (n : Nat) (h : n ≤ 1000) : inc (1 + (n : Int)) = 1 + ((n + 1 : Nat) : Int) := by unfold inc wrap64; omega

theorem sync_there {M : Mod} {F : Fil} (h : get? M.fs [102] = some F) : syncD [102] M.fs = (0, ins M.fs [102] F.sync) := by unfold syncD onD; rw [h]

theorem St.step {a more n : Nat} {M : Mod} (h : St a more n M) (hn : n ≤ 1000) : (M.sync [102]).1 = (if hit a more (n + 1) = true then 11 else 0) ∧ St a more (n + 1) (M.sync [102]).2 := by
  obtain ⟨⟨room, kind, at_, mo, down, ops, life⟩, fs⟩ := M
  obtain ⟨hup, hops, ⟨F, hF⟩, h1, h2, h3⟩ := h
  simp only at hup hops hF h1 h2 h3
  subst hup
  subst hops
  have hfit : nameFit [102] = true := by decide
  have hi := inc_small n hn
  have hsy := sync_there (M := ⟨⟨room, kind, at_, mo, false, 1 + n, life⟩, fs⟩) hF
  simp only at hsy
  have hg2 := get?_ins fs [102] F.sync
  by_cases c1 : n < a
  · obtain ⟨rfl, rfl, rfl⟩ := h1 c1
    by_cases c2 : n + 1 = a
    · have hh : hit a more (n + 1) = true := decide_eq_true (by omega)
      have e1 : ((a - n : Nat) : Int) = 1 := by omega
      rw [hh, if_pos rfl]
      rw [e1]
      have hrun : Mod.sync ⟨⟨room, 1, 1, more, false, 1 + n, life⟩, fs⟩ [102] = (11, ⟨(⟨room, 1, 1, more, false, 1 + n, life⟩ : Ctl).counted, fs⟩) := by
        unfold Mod.sync Mod.run
        rw [hfit]
        simp [Ctl.refusal, Ctl.begun, Ctl.fault]
      rw [hrun]
      refine ⟨rfl, ?_⟩
      unfold Ctl.counted Ctl.stepped
      simp only [hi]
      by_cases c3 : 0 < more
      · rw [if_neg (by decide), if_pos trivial, if_pos (by omega)]
        exact ⟨rfl, rfl, ⟨F, hF⟩, fun h => by omega, fun _ _ => ⟨rfl, rfl, by show (more : Int) - 1 = _; omega⟩, fun h _ => by omega⟩
      · rw [if_neg (by decide), if_pos trivial, if_neg (by omega)]
        exact ⟨rfl, rfl, ⟨F, hF⟩, fun h => by omega, fun _ _ => by omega, fun _ _ => ⟨rfl, rfl, rfl⟩⟩
    · have hh : hit a more (n + 1) = false := decide_eq_false (by omega)
      rw [hh, if_neg (by simp)]
      have hrun : Mod.sync ⟨⟨room, 1, ((a - n : Nat) : Int), more, false, 1 + n, life⟩, fs⟩ [102] = (0, ⟨⟨room, 1, ((a - (n + 1) : Nat) : Int), more, false, 1 + ((n + 1 : Nat) : Int), life⟩, ins fs [102] F.sync⟩) := by
        have hne : ((a - n : Nat) : Int) ≠ 1 := by omega
        have hne0 : ¬ a - n = 0 := by omega
        have e2 : ((a - n : Nat) : Int) - 1 = ((a - (n + 1) : Nat) : Int) := by omega
        unfold Mod.sync Mod.run
        rw [hfit]
        simp only [Ctl.refusal, Ctl.begun, Ctl.fault, if_neg hne, hsy]
        simp [Ctl.counted, Ctl.stepped, hne, hne0, e2, hi]
      rw [hrun]
      exact ⟨rfl, rfl, rfl, ⟨_, hg2⟩, fun h => ⟨rfl, rfl, rfl⟩, fun h => by omega, fun h => by omega⟩
  · by_cases c2 : n < a + more
    · obtain ⟨rfl, rfl, rfl⟩ := h2 (by omega) c2
      have hh : hit a more (n + 1) = true := decide_eq_true (by omega)
      rw [hh, if_pos rfl]
      have hrun : Mod.sync ⟨⟨room, 1, 1, ((a + more - n - 1 : Nat) : Int), false, 1 + n, life⟩, fs⟩ [102] = (11, ⟨(⟨room, 1, 1, ((a + more - n - 1 : Nat) : Int), false, 1 + n, life⟩ : Ctl).counted, fs⟩) := by
        unfold Mod.sync Mod.run
        rw [hfit]
        simp [Ctl.refusal, Ctl.begun, Ctl.fault]
      rw [hrun]
      refine ⟨rfl, ?_⟩
      unfold Ctl.counted Ctl.stepped
      simp only [hi]
      by_cases c3 : 0 < a + more - n - 1
      · rw [if_neg (by decide), if_pos trivial, if_pos (by omega)]
        exact ⟨rfl, rfl, ⟨F, hF⟩, fun h => by omega, fun _ _ => ⟨rfl, rfl, by show ((a + more - n - 1 : Nat) : Int) - 1 = _; omega⟩, fun h _ => by omega⟩
      · rw [if_neg (by decide), if_pos trivial, if_neg (by omega)]
        exact ⟨rfl, rfl, ⟨F, hF⟩, fun h => by omega, fun _ _ => by omega, fun _ _ => ⟨rfl, rfl, rfl⟩⟩
    · obtain ⟨rfl, rfl, rfl⟩ := h3 (by omega) (by omega)
      have hh : hit a more (n + 1) = false := decide_eq_false (by omega)
      rw [hh, if_neg (by simp)]
      have hrun : Mod.sync ⟨⟨room, 0, 0, 0, false, 1 + n, life⟩, fs⟩ [102] = (0, ⟨⟨room, 0, 0, 0, false, 1 + ((n + 1 : Nat) : Int), life⟩, ins fs [102] F.sync⟩) := by
        unfold Mod.sync Mod.run
        rw [hfit]
        simp [Ctl.refusal, Ctl.begun, Ctl.fault, Ctl.counted, Ctl.stepped, hi, hsy]
      rw [hrun]
      exact ⟨rfl, rfl, rfl, ⟨_, hg2⟩, fun h => by omega, fun h => by omega, fun _ _ => ⟨rfl, rfl, rfl⟩⟩

def m0 : Mod := Mod.new 100
def m1 : Mod := (m0.write [102] 0 (pageL 1)).2
theorem z1 : (m0.write [102] 0 (pageL 1)).1 = 0 := by decide +kernel
set_option maxRecDepth 100000 in
theorem St.start (a more : Nat) (ha : 1 ≤ a) : St a more 0 (m1.arm a 1 more) := by
  have h1 : m1.c.down = false ∧ m1.c.ops = 1 ∧ (get? m1.fs [102]).isSome = true := by decide +kernel
  obtain ⟨d, o, f⟩ := h1
  have e : m1.arm a 1 more = ⟨{ m1.c with kind := 1, at_ := (a : Int), more := max (more : Int) 0 }, m1.fs⟩ := by
    unfold Mod.arm Ctl.armed
    rw [if_neg (by omega), if_pos rfl]
  rw [e]
  refine ⟨d, by show m1.c.ops = _; rw [o]; rfl, Option.isSome_iff_exists.1 f, fun h => ⟨rfl, ?_, ?_⟩, fun h => by omega, fun h => by omega⟩
  · show (a : Int) = _; omega
  · show max (more : Int) 0 = _; omega
theorem junk_write (M : Mod) (p : List UInt8) : M.write [] 0 p = (1, M) := by
  unfold Mod.write Mod.run
  have h : (nameFit [] && decide ((0 : Int) ≤ 0) && decide (p.length = 256)) = false := by
    have : nameFit [] = false := by decide
    rw [this]; rfl
  rw [h]
  simp [Ctl.refusal, Ctl.begun]
theorem junk_cut (M : Mod) : M.cut [102] (-1) = (1, M) := by
  unfold Mod.cut Mod.run
  have h : (decide ((0 : Int) ≤ -1) && nameFit [102]) = false := by decide
  rw [h]
  simp [Ctl.refusal, Ctl.begun]

/-- Between two rounds. -/
def Rd (w : World) (d m a more : Nat) (v : Value) (l : List Bool) (n : Nat) (wr : World) : Prop := ∃ M, At w d m M wr ∧ St a more n M ∧ BoolsAt wr w.heap.size v l
theorem BoolsAt.kept {w w' : World} {N : Nat} {v : Value} {l : List Bool} (h : BoolsAt w N v l) (hb : Below N w w') : BoolsAt w' N v l := by
  rcases h with h | ⟨b, o, cap, hv, hb0, hl⟩
  · exact Or.inl h
  · exact Or.inr ⟨b, o, cap, hv, hb0, fun j hj => (hb.cell (p := ⟨b, o + j, none⟩) hb0).trans (hl j hj)⟩
theorem u64_nat (a : Int) : ∃ n : Nat, IntKind.u64.wrap a = (n : Int) := ⟨(IntKind.u64.wrap a).toNat, by
  have : IntKind.u64.wrap a = a % 18446744073709551616 := IntKind.wrap_u64 a
  omega⟩

theorem BoolsAt.mono {w : World} {N N' : Nat} {v : Value} {l : List Bool} (h : BoolsAt w N v l) (hN : N ≤ N') : BoolsAt w N' v l := by
  rcases h with h | ⟨b, o, cap, hv, hb0, hl⟩
  · exact Or.inl h
  · exact Or.inr ⟨b, o, cap, hv, by omega, hl⟩
set_option maxRecDepth 100000 in
set_option maxHeartbeats 8000000 in
theorem walk (a0 b0 : Int) (v : Value) (l : List Bool) (hl : l.length ≤ maxLen) (w : World) (hv : BoolsAt w w.heap.size v l) :
    Calls Try.prog 11 #[.int .i64 a0, .int .i64 b0, v] w fun e w' => e = .returned (.bool true) ∧ Below w.heap.size w w' := by
  obtain ⟨x, hx⟩ := u64_nat a0
  obtain ⟨y, hy⟩ := u64_nat b0
  have ea : (1 + (x : Int) % 20) = ((1 + x % 20 : Nat) : Int) := by omega
  have eb : (y : Int) % 6 = ((y % 6 : Nat) : Int) := by omega
  have EA := hid ea
  have EB := hid eb
  clear ea eb
  have hm : (∃ ao cap, v = .slice ao 0 cap ∧ l = []) ∨ ∃ b o cap, v = .slice (some ⟨b, o, none⟩) l.length cap := by
    rcases hv with h | ⟨b, o, cap, h, _⟩
    · exact Or.inl h
    · exact Or.inr ⟨b, o, cap, h⟩
  have HV := hid hv
  clear hv
  unfold maxLen at hl
  rcases hm with ⟨ao, cap, rfl, rfl⟩ | ⟨b, o, cap, rfl⟩
  · go_enter Try.func11, Try.ntmps11
    go_wp2_with fail
    refine (Disk.awake_any w).mono ?_
    rintro e w1 ⟨rfl, hb1⟩
    have HB1 := hid hb1
    have HV1 := hid ((HV.out.kept hb1).mono hb1.size)
    clear hb1
    go_wp2_with fail
    rw [EA.out, EB.out]
    have ha : 1 + x % 20 ≤ 20 := by omega
    have ha1 : 1 ≤ 1 + x % 20 := by omega
    have hmo : y % 6 ≤ 5 := by omega
    clear hx hy
    generalize 1 + x % 20 = a at *
    generalize y % 6 = mo at *
    refine (new_has 100 w1).mono ?_
    rintro e w2 ⟨rfl, h, hb⟩
    have H1 : Hid (At w1 (w1.heap.size + 1) w1.heap.size m0 w2) := hid ⟨h, hb⟩
    clear h hb
    go_wp2_with fail
    refine (page_1 _).mono ?_
    rintro e w3 ⟨rfl, hb⟩
    have H2 := hid (H1.out.below hb)
    clear hb
    go_wp2_with fail
    refine (write_f H2.out.1 0 (pageL 1) (pageL_len 1)).mono ?_
    rintro e w4 ⟨rfl, h, hb⟩
    have H3 : Hid (At w1 (w1.heap.size + 1) w1.heap.size m1 w4) := hid (H2.out.next h hb)
    clear h hb
    rw [z1]
    go_wp2_with fail
    refine (arm_has H3.out.1 a 1 mo (by omega) (by omega)).mono ?_
    rintro e w5 ⟨rfl, h, hb⟩
    have H4 : Hid (At w1 (w1.heap.size + 1) w1.heap.size (m1.arm a 1 mo) w5) := hid (H3.out.next h hb)
    clear h hb
    go_wp2_with fail
    refine (ops_has H4.out.1).mono ?_
    rintro e w' ⟨rfl, rfl⟩
    rw [show (m1.arm a 1 mo).c.ops = 1 from (St.start a mo ha1).ops]
    have H5 : Hid (Rd w1 (w1.heap.size + 1) w1.heap.size a mo (.slice ao 0 cap) [] 0 w5) := hid ⟨_, H4.out, St.start a mo ha1, HV1.out.kept H4.out.2⟩
    go_wp2
    go_loopw [9] (fun i wr => ∃ k : Nat, 1 ≤ k ∧ k ≤ 40 ∧ i = .int .i64 k ∧ Rd w1 (w1.heap.size + 1) w1.heap.size a mo (.slice ao 0 cap) [] (k - 1) wr) (fun i _ => 40 - (intOf i).toNat)
    case atStart => exact ⟨1, by omega, by omega, rfl, H5.out⟩
    case round =>
      obtain ⟨k, hk1, hk2, rfl, M, hA, hS, hB⟩ := hrel
      have HX0 := hid hA
      by_cases hlt : k < 40
      · have hst := hS.step (by omega)
        rw [show k - 1 + 1 = k by omega] at hst
        have hops := hst.2.ops
        have HST := hid hst
        have HOPS := hid hops
        clear hst hops hS hA
        clear hB
        have HX := HX0
        go_wp2_with fail
        refine (sync_f HX.out.1).mono ?_
        rintro e wz ⟨rfl, h, hb⟩
        have HZ : Hid (At w1 (w1.heap.size + 1) w1.heap.size (M.sync [102]).2 wz) := hid (HX.out.next h hb)
        clear h hb
        rw [HST.out.1]
        have HR2 : Hid (Rd w1 (w1.heap.size + 1) w1.heap.size a mo (.slice ao 0 cap) [] (k + 1 - 1) wz) := hid ⟨_, HZ.out, by rw [show k + 1 - 1 = k by omega]; exact HST.out.2, HV1.out.kept HZ.out.2⟩
        cases hh : hit a mo k with
        | true =>
          have h1 := of_decide_eq_true hh
          obtain ⟨h1, h2⟩ := h1
          rw [if_pos rfl]
          clear hh
          go_wp2_with fail
          refine (ops_has HZ.out.1).mono ?_
          rintro e w' ⟨rfl, rfl⟩
          rw [HOPS.out]
          go_wp2
          go_roundw
          case rel => exact ⟨k + 1, by omega, by omega, by go_num, HR2.out⟩
          case measure => simp [intOf]; omega
        | false =>
          have h0 := of_decide_eq_false hh
          rw [if_neg (by simp)]
          clear hh
          by_cases h1 : a ≤ k
          · have h2 : ¬ k ≤ a + mo := fun h => h0 ⟨h1, h⟩
            clear h0
            go_wp2_with fail
            refine (ops_has HZ.out.1).mono ?_
            rintro e w' ⟨rfl, rfl⟩
            rw [HOPS.out]
            go_wp2
            go_roundw
            case rel => exact ⟨k + 1, by omega, by omega, by go_num, HR2.out⟩
            case measure => simp [intOf]; omega
          · clear h0
            go_wp2_with fail
            refine (ops_has HZ.out.1).mono ?_
            rintro e w' ⟨rfl, rfl⟩
            rw [HOPS.out]
            go_wp2
            go_roundw
            case rel => exact ⟨k + 1, by omega, by omega, by go_num, HR2.out⟩
            case measure => simp [intOf]; omega
      · obtain rfl : k = 40 := by omega
        clear hS hA hB
        go_wp2
        go_ret
        exact ⟨rfl, HB1.out.trans (HX0.out.2.mono HB1.out.size)⟩
  · go_enter Try.func11, Try.ntmps11
    go_wp2_with fail
    refine (Disk.awake_any w).mono ?_
    rintro e w1 ⟨rfl, hb1⟩
    have HB1 := hid hb1
    have HV1 := hid ((HV.out.kept hb1).mono hb1.size)
    clear hb1
    go_wp2_with fail
    rw [EA.out, EB.out]
    have ha : 1 + x % 20 ≤ 20 := by omega
    have ha1 : 1 ≤ 1 + x % 20 := by omega
    have hmo : y % 6 ≤ 5 := by omega
    clear hx hy
    generalize 1 + x % 20 = a at *
    generalize y % 6 = mo at *
    refine (new_has 100 w1).mono ?_
    rintro e w2 ⟨rfl, h, hb⟩
    have H1 : Hid (At w1 (w1.heap.size + 1) w1.heap.size m0 w2) := hid ⟨h, hb⟩
    clear h hb
    go_wp2_with fail
    refine (page_1 _).mono ?_
    rintro e w3 ⟨rfl, hb⟩
    have H2 := hid (H1.out.below hb)
    clear hb
    go_wp2_with fail
    refine (write_f H2.out.1 0 (pageL 1) (pageL_len 1)).mono ?_
    rintro e w4 ⟨rfl, h, hb⟩
    have H3 : Hid (At w1 (w1.heap.size + 1) w1.heap.size m1 w4) := hid (H2.out.next h hb)
    clear h hb
    rw [z1]
    go_wp2_with fail
    refine (arm_has H3.out.1 a 1 mo (by omega) (by omega)).mono ?_
    rintro e w5 ⟨rfl, h, hb⟩
    have H4 : Hid (At w1 (w1.heap.size + 1) w1.heap.size (m1.arm a 1 mo) w5) := hid (H3.out.next h hb)
    clear h hb
    go_wp2_with fail
    refine (ops_has H4.out.1).mono ?_
    rintro e w' ⟨rfl, rfl⟩
    rw [show (m1.arm a 1 mo).c.ops = 1 from (St.start a mo ha1).ops]
    have H5 : Hid (Rd w1 (w1.heap.size + 1) w1.heap.size a mo (.slice (some ⟨b, o, none⟩) l.length cap) l 0 w5) := hid ⟨_, H4.out, St.start a mo ha1, HV1.out.kept H4.out.2⟩
    go_wp2
    go_loopw [9] (fun i wr => ∃ k : Nat, 1 ≤ k ∧ k ≤ 40 ∧ i = .int .i64 k ∧ Rd w1 (w1.heap.size + 1) w1.heap.size a mo (.slice (some ⟨b, o, none⟩) l.length cap) l (k - 1) wr) (fun i _ => 40 - (intOf i).toNat)
    case atStart => exact ⟨1, by omega, by omega, rfl, H5.out⟩
    case round =>
      obtain ⟨k, hk1, hk2, rfl, M, hA, hS, hB⟩ := hrel
      have HX0 := hid hA
      by_cases hlt : k < 40
      · have hst := hS.step (by omega)
        rw [show k - 1 + 1 = k by omega] at hst
        have hops := hst.2.ops
        have HST := hid hst
        have HOPS := hid hops
        clear hst hops hS hA
        by_cases hj : k < l.length
        · have hc : wr.cell? ⟨b, o + k, none⟩ = some (.bool l[k]) := by
            rcases hB with ⟨_, _, _, h⟩ | ⟨b', o', cap', h, _, hcell⟩
            · rw [h] at hj; exact absurd hj (Nat.not_lt_zero _)
            · cases h; exact hcell k hj
          clear hB
          cases hb : l[k] with
          | true =>
            rw [hb] at hc
            clear hb
            go_wp2_with fail
            refine (page_1 _).mono ?_
            rintro e wa ⟨rfl, hb⟩
            have HA1 := hid (HX0.out.below hb)
            clear hb
            go_wp2_with fail
            refine (write_has HA1.out.1 ⟨#[]⟩ (by decide +kernel) 0 ⟨(pageL 1).toArray⟩ (by
              have e : (⟨(pageL 1).toArray⟩ : ByteArray).size = (pageL 1).length := rfl
              rw [e, pageL_len]; decide +kernel)).mono ?_
            rintro e wb ⟨rfl, h, hb⟩
            rw [show M.write (⟨#[]⟩ : ByteArray).data.toList 0 (⟨(pageL 1).toArray⟩ : ByteArray).data.toList = (1, M) from junk_write M (pageL 1)] at h ⊢
            have HA2 : Hid (At w1 (w1.heap.size + 1) w1.heap.size M wb) := hid (HA1.out.next h hb)
            clear h hb
            go_wp2_with fail
            refine (cut_has HA2.out.1 ⟨#[102]⟩ (by decide +kernel) (-1)).mono ?_
            rintro e wc ⟨rfl, h, hb⟩
            rw [show M.cut (⟨#[102]⟩ : ByteArray).data.toList (-1) = (1, M) from junk_cut M] at h ⊢
            have HX : Hid (At w1 (w1.heap.size + 1) w1.heap.size M wc) := hid (HA2.out.next h hb)
            clear h hb
            go_wp2_with fail
            refine (sync_f HX.out.1).mono ?_
            rintro e wz ⟨rfl, h, hb⟩
            have HZ : Hid (At w1 (w1.heap.size + 1) w1.heap.size (M.sync [102]).2 wz) := hid (HX.out.next h hb)
            clear h hb
            rw [HST.out.1]
            have HR2 : Hid (Rd w1 (w1.heap.size + 1) w1.heap.size a mo (.slice (some ⟨b, o, none⟩) l.length cap) l (k + 1 - 1) wz) := hid ⟨_, HZ.out, by rw [show k + 1 - 1 = k by omega]; exact HST.out.2, HV1.out.kept HZ.out.2⟩
            cases hh : hit a mo k with
            | true =>
              have h1 := of_decide_eq_true hh
              obtain ⟨h1, h2⟩ := h1
              rw [if_pos rfl]
              clear hh
              go_wp2_with fail
              refine (ops_has HZ.out.1).mono ?_
              rintro e w' ⟨rfl, rfl⟩
              rw [HOPS.out]
              go_wp2
              go_roundw
              case rel => exact ⟨k + 1, by omega, by omega, by go_num, HR2.out⟩
              case measure => simp [intOf]; omega
            | false =>
              have h0 := of_decide_eq_false hh
              rw [if_neg (by simp)]
              clear hh
              by_cases h1 : a ≤ k
              · have h2 : ¬ k ≤ a + mo := fun h => h0 ⟨h1, h⟩
                clear h0
                go_wp2_with fail
                refine (ops_has HZ.out.1).mono ?_
                rintro e w' ⟨rfl, rfl⟩
                rw [HOPS.out]
                go_wp2
                go_roundw
                case rel => exact ⟨k + 1, by omega, by omega, by go_num, HR2.out⟩
                case measure => simp [intOf]; omega
              · clear h0
                go_wp2_with fail
                refine (ops_has HZ.out.1).mono ?_
                rintro e w' ⟨rfl, rfl⟩
                rw [HOPS.out]
                go_wp2
                go_roundw
                case rel => exact ⟨k + 1, by omega, by omega, by go_num, HR2.out⟩
                case measure => simp [intOf]; omega
          | false =>
            rw [hb] at hc
            clear hb
            have HX := HX0
            go_wp2_with fail
            refine (sync_f HX.out.1).mono ?_
            rintro e wz ⟨rfl, h, hb⟩
            have HZ : Hid (At w1 (w1.heap.size + 1) w1.heap.size (M.sync [102]).2 wz) := hid (HX.out.next h hb)
            clear h hb
            rw [HST.out.1]
            have HR2 : Hid (Rd w1 (w1.heap.size + 1) w1.heap.size a mo (.slice (some ⟨b, o, none⟩) l.length cap) l (k + 1 - 1) wz) := hid ⟨_, HZ.out, by rw [show k + 1 - 1 = k by omega]; exact HST.out.2, HV1.out.kept HZ.out.2⟩
            cases hh : hit a mo k with
            | true =>
              have h1 := of_decide_eq_true hh
              obtain ⟨h1, h2⟩ := h1
              rw [if_pos rfl]
              clear hh
              go_wp2_with fail
              refine (ops_has HZ.out.1).mono ?_
              rintro e w' ⟨rfl, rfl⟩
              rw [HOPS.out]
              go_wp2
              go_roundw
              case rel => exact ⟨k + 1, by omega, by omega, by go_num, HR2.out⟩
              case measure => simp [intOf]; omega
            | false =>
              have h0 := of_decide_eq_false hh
              rw [if_neg (by simp)]
              clear hh
              by_cases h1 : a ≤ k
              · have h2 : ¬ k ≤ a + mo := fun h => h0 ⟨h1, h⟩
                clear h0
                go_wp2_with fail
                refine (ops_has HZ.out.1).mono ?_
                rintro e w' ⟨rfl, rfl⟩
                rw [HOPS.out]
                go_wp2
                go_roundw
                case rel => exact ⟨k + 1, by omega, by omega, by go_num, HR2.out⟩
                case measure => simp [intOf]; omega
              · clear h0
                go_wp2_with fail
                refine (ops_has HZ.out.1).mono ?_
                rintro e w' ⟨rfl, rfl⟩
                rw [HOPS.out]
                go_wp2
                go_roundw
                case rel => exact ⟨k + 1, by omega, by omega, by go_num, HR2.out⟩
                case measure => simp [intOf]; omega
        · clear hB
          have HX := HX0
          go_wp2_with fail
          refine (sync_f HX.out.1).mono ?_
          rintro e wz ⟨rfl, h, hb⟩
          have HZ : Hid (At w1 (w1.heap.size + 1) w1.heap.size (M.sync [102]).2 wz) := hid (HX.out.next h hb)
          clear h hb
          rw [HST.out.1]
          have HR2 : Hid (Rd w1 (w1.heap.size + 1) w1.heap.size a mo (.slice (some ⟨b, o, none⟩) l.length cap) l (k + 1 - 1) wz) := hid ⟨_, HZ.out, by rw [show k + 1 - 1 = k by omega]; exact HST.out.2, HV1.out.kept HZ.out.2⟩
          cases hh : hit a mo k with
          | true =>
            have h1 := of_decide_eq_true hh
            obtain ⟨h1, h2⟩ := h1
            rw [if_pos rfl]
            clear hh
            go_wp2_with fail
            refine (ops_has HZ.out.1).mono ?_
            rintro e w' ⟨rfl, rfl⟩
            rw [HOPS.out]
            go_wp2
            go_roundw
            case rel => exact ⟨k + 1, by omega, by omega, by go_num, HR2.out⟩
            case measure => simp [intOf]; omega
          | false =>
            have h0 := of_decide_eq_false hh
            rw [if_neg (by simp)]
            clear hh
            by_cases h1 : a ≤ k
            · have h2 : ¬ k ≤ a + mo := fun h => h0 ⟨h1, h⟩
              clear h0
              go_wp2_with fail
              refine (ops_has HZ.out.1).mono ?_
              rintro e w' ⟨rfl, rfl⟩
              rw [HOPS.out]
              go_wp2
              go_roundw
              case rel => exact ⟨k + 1, by omega, by omega, by go_num, HR2.out⟩
              case measure => simp [intOf]; omega
            · clear h0
              go_wp2_with fail
              refine (ops_has HZ.out.1).mono ?_
              rintro e w' ⟨rfl, rfl⟩
              rw [HOPS.out]
              go_wp2
              go_roundw
              case rel => exact ⟨k + 1, by omega, by omega, by go_num, HR2.out⟩
              case measure => simp [intOf]; omega
      · obtain rfl : k = 40 := by omega
        clear hS hA hB
        go_wp2
        go_ret
        exact ⟨rfl, HB1.out.trans (HX0.out.2.mono HB1.out.size)⟩

end diskArms
end Go.Proofs.Ytfgaoopgnpigjaa
