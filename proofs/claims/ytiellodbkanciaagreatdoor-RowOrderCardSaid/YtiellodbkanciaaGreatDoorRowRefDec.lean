/-
  Contracts of the reference's value and Decode.
-/
import Derived.Test.YtiellodbkanciaaGreatDoorRowDec
import Derived.Test.YtiellodbkanciaaGreatDoorGrpNum
namespace Go.Proofs.YtiellodbkanciaaGreatDoor
open Go.RowKit
namespace Ro
open Va
open Num (hid unvL unfoldI)
def vT (v : V) (n q : Int) : Value := .tuple #[.agg #[.int .i64 v.K, .int .i64 v.N, .string v.S], .int .i64 n, .int .i64 q]
def RG (x : Dv) (s : ByteArray) (v : V) (n : Nat) (q : Int) : Prop := match x with
  | .ok v' t => v = v' ∧ q = 0 ∧ t = (bl s).drop n ∧ n ≤ s.size
  | .no q' => q = q' ∧ q' ≠ 0
theorem RG.yes {s : ByteArray} {v : V} {n : Nat} (h : n ≤ s.size) : RG (.ok v ((bl s).drop n)) s v n 0 := ⟨rfl, rfl, rfl, h⟩
theorem RG.not {s : ByteArray} {v : V} {n : Nat} {q : Int} (h : q ≠ 0) : RG (.no q) s v n q := ⟨rfl, h⟩
/-- What value answers at a place. -/
def RGives (s : ByteArray) (k : Nat) (w w' : World) (e : Ending) : Prop := ∃ (v : V) (n : Nat) (q : Int), e = .returned (vT v n q) ∧ RG (decV ((bl s).drop k)) s v n q ∧ Below w.heap.size w w'
theorem ex_mid (s : ByteArray) (a n : Nat) : s.extract a (a + n) = bs (((bl s).drop a).take n) := by
  have e : s.extract a (a + n) = bs (bl (s.extract a (a + n))) := (bs_bl _).symm
  rw [e]
  refine congrArg bs ?_
  show (s.extract a (a + n)).data.toList = _
  rw [ByteArray.data_extract]
  simp only [Array.toList_extract, List.extract_eq_take_drop]
  simp
theorem runv_b (s : ByteArray) (k : Nat) (hs : s.size ≤ 281474976710656) (w : World) : Calls Tryz.prog 80 #[.string (s.extract k s.size)] w fun e w' => e = .returned (.tuple #[.int .u64 ((unvL 0 0 ((bl s).drop k)).1 : Nat), .int .i64 ((unvL 0 0 ((bl s).drop k)).2.1 : Nat), .int .i64 (unvL 0 0 ((bl s).drop k)).2.2]) ∧ w = w' := by
  have h := Num.runvar_any (s.extract k s.size) w (by rw [ByteArray.size_extract]; unfold maxLen; omega)
  rw [rest_list s k] at h
  exact h
theorem runfold_n {n : Nat} (h : n < 18446744073709551616) (w : World) : Calls Tryz.prog 130 #[.int .u64 (n : Nat)] w fun e w' => e = .returned (.int .i64 (unfoldI n)) ∧ w = w' := Num.runfold_any n (by omega) (by omega) w
set_option maxRecDepth 100000 in
set_option maxHeartbeats 4000000 in
theorem rvalue_any (s : ByteArray) (k : Nat) (hk : k ≤ s.size) (hs : s.size ≤ 140737488355328) (w : World) :
    Calls Tryz.prog 81 #[.string s, .int .i64 k] w fun e w' => RGives s k w w' e := by
  have X1 := hid (Bx.new 0 0 ⟨#[]⟩ w)
  have B1 := hid ((Below.refl w.heap.size w).alloc (Nat.le_refl _) (.cells #[.int .i64 0, .int .i64 0, .string ⟨#[]⟩] tV))
  unfold RGives
  by_cases hlt : k < s.size
  · rw [rest_cons hlt, decV_cons]
    have hlt' : ¬ (s.size : Int) ≤ k := by omega
    have hl1 : ((bl s).drop (k + 1)).length = s.size - (k + 1) := by rw [List.length_drop, bl_len]
    have HRU := hid (runv_b s (k + 1) (by omega))
    obtain ⟨un, uk, -⟩ := Num.unv_lt ((bl s).drop (k + 1))
    rw [hl1] at uk
    have hd : ∀ j, ((bl s).drop (k + 1)).drop j = (bl s).drop (k + 1 + j) := fun j => List.drop_drop
    have hll : ∀ j, ((bl s).drop (k + 1 + j)).length = s.size - (k + 1 + j) := fun j => by rw [List.length_drop, bl_len]
    simp only [hd, hll]
    generalize unvL 0 0 ((bl s).drop (k + 1)) = u at *
    obtain ⟨n, j, q⟩ := u
    simp only at HRU un uk ⊢
    have c256 : (s[k].toNat : Int) ≤ 255 := by have := s[k].toNat_lt; omega
    by_cases h3 : 3 < s[k].toNat
    · rw [if_pos h3]
      have h3' : (3 : Int) < (s[k].toNat : Int) := by omega
      clear hd hll hl1 HRU
      go_enter Tryz.func81, Tryz.ntmps81
      go_wp2
      exact bodyPost_ret (v := vT ⟨0, 0, bs []⟩ 0 4) (by simp [results, vT, bs, go_sem]) rfl ⟨⟨0, 0, bs []⟩, 0, 4, rfl, RG.not (by decide), by
        repeat (first | exact B1.out | exact (Below.refl _ _).alloc (Nat.le_refl _) _ | refine Below.setCell ?_ (by simp) _)⟩
    · rw [if_neg h3]
      have h3' : ¬ (3 : Int) < (s[k].toNat : Int) := by omega
      by_cases hc0 : s[k].toNat = 0
      · rw [if_pos hc0]
        have c0 : ((s[k].toNat : Int) == 0) = true := by rw [hc0]; rfl
        clear hd hll hl1 HRU
        have HC := hid hc0
        have HR : Hid (RG (.ok ⟨0, 0, bs []⟩ ((bl s).drop (k + 1))) s ⟨0, 0, bs []⟩ (k + 1) 0) := hid (RG.yes (by omega))
        clear hc0
        go_enter Tryz.func81, Tryz.ntmps81
        go_wp2
        exact bodyPost_ret (v := vT ⟨0, 0, bs []⟩ ((k + 1 : Nat) : Int) 0) (by simp [results, vT, bs, go_sem]) rfl ⟨⟨0, 0, bs []⟩, k + 1, 0, rfl, HR.out, by
          repeat (first | exact B1.out | exact (Below.refl _ _).alloc (Nat.le_refl _) _ | refine Below.setCell ?_ (by simp) _)⟩
      · rw [if_neg hc0]
        have c0 : ((s[k].toNat : Int) == 0) = false := by rw [beq_eq_false_iff_ne]; omega
        have hk1 : k + 1 ≤ s.size := by omega
        have hk1i : (k : Int) + 1 ≤ (s.size : Int) := by omega
        by_cases hq : q = 0
        · subst hq
          rw [if_neg (by simp)]
          by_cases hc1 : s[k].toNat = 1
          · rw [if_pos hc1]
            have c1 : ((s[k].toNat : Int) == 1) = true := by rw [hc1]; rfl
            obtain ⟨N, hN⟩ : ∃ N, unfoldI n = N := ⟨_, rfl⟩
            have HU := hid (fun w => runfold_n un w)
            rw [hN] at HU ⊢
            have HR : Hid (RG (.ok ⟨1, N, bs []⟩ ((bl s).drop (k + 1 + j))) s ⟨1, N, bs []⟩ (k + 1 + j) 0) := hid (RG.yes (by omega))
            clear hd hll hl1 hN hc1 hc0
            go_enter Tryz.func81, Tryz.ntmps81
            go_wp2_with fail
            refine (HRU.out _).mono ?_
            rintro e w5 ⟨rfl, rfl⟩
            go_wp2_with fail
            refine (HU.out _).mono ?_
            rintro e w5 ⟨rfl, rfl⟩
            go_wp2
            exact bodyPost_ret (v := vT ⟨1, N, bs []⟩ ((k + 1 + j : Nat) : Int) 0) (by simp [results, vT, bs, go_sem]) rfl ⟨⟨1, N, bs []⟩, k + 1 + j, 0, rfl, HR.out, by
              repeat (first | exact B1.out | exact (Below.refl _ _).alloc (Nat.le_refl _) _ | refine Below.setCell ?_ (by simp) _)⟩
          · rw [if_neg hc1]
            have c1 : ((s[k].toNat : Int) == 1) = false := by rw [beq_eq_false_iff_ne]; omega
            by_cases hn : 2000 < n
            · rw [if_pos hn]
              have hn' : (2000 : Int) < n := by omega
              clear hd hll hl1 hc1 hc0
              go_enter Tryz.func81, Tryz.ntmps81
              go_wp2_with fail
              refine (HRU.out _).mono ?_
              rintro e w5 ⟨rfl, rfl⟩
              go_wp2
              exact bodyPost_ret (v := vT ⟨0, 0, bs []⟩ 0 4) (by simp [results, vT, bs, go_sem]) rfl ⟨⟨0, 0, bs []⟩, 0, 4, rfl, RG.not (by decide), by
                repeat (first | exact B1.out | exact (Below.refl _ _).alloc (Nat.le_refl _) _ | refine Below.setCell ?_ (by simp) _)⟩
            · rw [if_neg hn]
              have hn' : ¬ (2000 : Int) < n := by omega
              have hwn : wrap64 (n : Int) = n := by rw [Num.wrap_i]; omega
              have hws : wrap64 ((s.size : Int) - ((k : Int) + 1 + j)) = (s.size : Int) - ((k : Int) + 1 + j) := by rw [Num.wrap_i]; omega
              by_cases hx : s.size - (k + 1 + j) < n
              · rw [if_pos hx]
                have hx' : (s.size : Int) - ((k : Int) + 1 + j) < n := by omega
                clear hd hll hl1 hc1 hc0
                go_enter Tryz.func81, Tryz.ntmps81
                go_wp2_with fail
                refine (HRU.out _).mono ?_
                rintro e w5 ⟨rfl, rfl⟩
                go_wp2
                exact bodyPost_ret (v := vT ⟨0, 0, bs []⟩ 0 3) (by simp [results, vT, bs, go_sem]) rfl ⟨⟨0, 0, bs []⟩, 0, 3, rfl, RG.not (by decide), by
                  repeat (first | exact B1.out | exact (Below.refl _ _).alloc (Nat.le_refl _) _ | refine Below.setCell ?_ (by simp) _)⟩
              · rw [if_neg hx]
                have hx' : ¬ (s.size : Int) - ((k : Int) + 1 + j) < n := by omega
                have hm := hid (ex_mid s (k + 1 + j) n)
                have hdr : ((bl s).drop (k + 1 + j)).drop n = (bl s).drop (k + 1 + j + n) := List.drop_drop
                rw [hdr, ← hm.out]
                have HR : Hid (RG (.ok ⟨s[k].toNat, 0, s.extract (k + 1 + j) (k + 1 + j + n)⟩ ((bl s).drop (k + 1 + j + n))) s ⟨s[k].toNat, 0, s.extract (k + 1 + j) (k + 1 + j + n)⟩ (k + 1 + j + n) 0) := hid (RG.yes (by omega))
                have hb1 : k + 1 + j + n ≤ s.size := by omega
                have hb2 : (k : Int) + 1 + j + n ≤ (s.size : Int) := by omega
                clear hd hll hl1 hc1 hc0 hdr
                go_enter Tryz.func81, Tryz.ntmps81
                go_wp2_with fail
                refine (HRU.out _).mono ?_
                rintro e w5 ⟨rfl, rfl⟩
                go_wp2
                exact bodyPost_ret (v := vT ⟨s[k].toNat, 0, s.extract (k + 1 + j) (k + 1 + j + n)⟩ ((k + 1 + j + n : Nat) : Int) 0) (by simp [results, vT, go_sem]) rfl ⟨⟨s[k].toNat, 0, s.extract (k + 1 + j) (k + 1 + j + n)⟩, k + 1 + j + n, 0, rfl, HR.out, by
                  repeat (first | exact B1.out | exact (Below.refl _ _).alloc (Nat.le_refl _) _ | refine Below.setCell ?_ (by simp) _)⟩
        · rw [if_pos hq]
          have hq' : (q == 0) = false := by simpa using hq
          have HQ := hid hq
          clear hd hll hl1 hq hc0
          go_enter Tryz.func81, Tryz.ntmps81
          go_wp2_with fail
          refine (HRU.out _).mono ?_
          rintro e w5 ⟨rfl, rfl⟩
          go_wp2
          exact bodyPost_ret (v := vT ⟨0, 0, bs []⟩ 0 q) (by simp [results, vT, bs, go_sem]) rfl ⟨⟨0, 0, bs []⟩, 0, q, rfl, RG.not HQ.out, by
            repeat (first | exact B1.out | exact (Below.refl _ _).alloc (Nat.le_refl _) _ | refine Below.setCell ?_ (by simp) _)⟩
  · have h0 : (bl s).drop k = [] := List.drop_of_length_le (by rw [bl_len]; omega)
    rw [h0]
    have hlt' : (s.size : Int) ≤ k := by omega
    go_enter Tryz.func81, Tryz.ntmps81
    go_wp2
    exact bodyPost_ret (v := vT ⟨0, 0, bs []⟩ 0 3) (by simp [results, vT, bs, go_sem]) rfl ⟨⟨0, 0, bs []⟩, 0, 3, rfl, RG.not (by decide), by
      repeat (first | exact B1.out | exact (Below.refl _ _).alloc (Nat.le_refl _) _ | refine Below.setCell ?_ (by simp) _)⟩
theorem OwnR.made (w : World) (base : Nat) (hb : base ≤ w.heap.size) : OwnR (w.alloc (.cells #[] tV)) base (.slice (some ⟨w.heap.size, 0, none⟩) 0 0) [] :=
  World.ownsRow_made w #[] 0 hb (by decide) rfl
theorem decN_step {s : ByteArray} {n j p : Nat} (hj : j < n) {rs : Vs} {S0 : Bs} (h : decN n S0 = (decN (n - j) ((bl s).drop p)).on rs) {v : V} {m : Nat} {q : Int} (hg : RG (decV ((bl s).drop p)) s v m q) :
    (q = 0 ∧ m ≤ s.size ∧ decN n S0 = (decN (n - (j + 1)) ((bl s).drop m)).on (rs ++ [v])) ∨ (q ≠ 0 ∧ decN n S0 = .no q) := by
  have h7 := Rounds.next hj h
  cases hd : decV ((bl s).drop p) with
  | ok v' t =>
    rw [hd] at hg h7
    obtain ⟨rfl, rfl, rfl, hm⟩ := hg
    refine Or.inl ⟨rfl, hm, ?_⟩
    rw [h7]
    show ((decN (n - (j + 1)) ((bl s).drop m)).on [v]).on rs = _
    rw [ds_on_on]
  | no q' =>
    rw [hd] at hg h7
    obtain ⟨rfl, hq⟩ := hg
    exact Or.inr ⟨hq, h7⟩
set_option maxRecDepth 100000 in
set_option maxHeartbeats 4000000 in
theorem rdecode_any (s : ByteArray) (hs : s.size ≤ 140737488355328) (w : World) : Calls Tryz.prog 36 #[.string s] w fun e w' => DecGives (decR (bl s)) w w' e := by
  obtain ⟨x, hx⟩ : ∃ x, decR (bl s) = x := ⟨_, rfl⟩
  rw [hx]
  unfold decR at hx
  have HU : Hid (∀ w, Calls Tryz.prog 80 #[.string s] w fun e w' => e = .returned (.tuple #[.int .u64 ((unvL 0 0 (bl s)).1 : Nat), .int .i64 ((unvL 0 0 (bl s)).2.1 : Nat), .int .i64 (unvL 0 0 (bl s)).2.2]) ∧ w = w') := hid (fun w => Num.runvar_any s w (by unfold maxLen; omega))
  obtain ⟨un, uk, -⟩ := Num.unv_lt (bl s)
  rw [bl_len] at uk
  generalize unvL 0 0 (bl s) = u at *
  obtain ⟨n, k, q⟩ := u
  simp only at hx HU un uk
  by_cases hq : q = 0
  · subst hq
    rw [if_neg (by simp)] at hx
    by_cases hn : 16 < n
    · rw [if_pos hn] at hx
      subst hx
      have hn' : (16 : Int) < n := by omega
      go_enter Tryz.func36, Tryz.ntmps36
      go_wp2_with fail
      refine (HU.out _).mono ?_
      rintro e w5 ⟨rfl, rfl⟩
      go_wp2
      go_ret2
      exact ⟨⟨_, rfl, RowAt.nil _ _ _⟩, Below.refl _ _⟩
    · rw [if_neg hn] at hx
      have HX := hid hx
      have hn' : ¬ (16 : Int) < n := by omega
      have hwn : wrap64 (n : Int) = n := by rw [Num.wrap_i]; omega
      clear hx
      go_enter Tryz.func36, Tryz.ntmps36
      go_wp2_with fail
      refine (HU.out _).mono ?_
      rintro e w5 ⟨rfl, rfl⟩
      have H0 := hid (OwnR.made w w.heap.size (Nat.le_refl _))
      have B0 := hid ((Below.refl w.heap.size w).alloc (Nat.le_refl _) (.cells #[] tV))
      go_wp2
      go_loopw [5, 7, 8] (fun at_ d i wr => ∃ (j p : Nat) (rs : Vs), j ≤ n ∧ p ≤ s.size ∧ rs.length = j ∧ i = .int .i64 j ∧ at_ = .int .i64 p ∧ Hid (OwnR wr w.heap.size d rs) ∧ Hid (decN n ((bl s).drop k) = (decN (n - j) ((bl s).drop p)).on rs) ∧ Hid (Below w.heap.size w wr)) (fun _ _ i _ => n - (intOf i).toNat)
      case atStart => exact ⟨0, k, [], Nat.zero_le _, uk, rfl, rfl, rfl, H0, hid (by rw [ds_nil]; rfl), B0⟩
      case round =>
        obtain ⟨j, p, rs, hj, hp, hlen, rfl, rfl, HOw, HD, HB⟩ := hrel
        by_cases hlt : j < n
        · have hlt' : (j : Int) < n := by omega
          have HV := hid (fun w => rvalue_any s p hp hs w)
          go_wp2_with fail
          refine (HV.out _).mono ?_
          rintro e w3 ⟨v, m, q, rfl, hrg, hb3⟩
          have HS := hid (decN_step hlt HD.out hrg)
          have HOw3 := hid (HOw.out.on hb3)
          have hszr := HB.out.size
          have HB3 := hid (HB.out.trans (hb3.mono hszr))
          have hsz3 := HB3.out.size
          clear hrg hb3
          unfold vT
          rcases HS.out with ⟨rfl, hm, hdec⟩ | ⟨hq, hdec⟩
          · have HDec := hid hdec
            have HBA := hid (HB3.out.alloc hsz3 (.cells #[.int .i64 v.K, .int .i64 v.N, .string v.S] tV))
            have HBC := hid (HBA.out.alloc HBA.out.size (.cells #[.int .i64 v.K, .int .i64 v.N, .string v.S] tV))
            have HOA := hid ((HOw3.out.on ((Below.refl _ _).alloc (Nat.le_refl _) (.cells #[.int .i64 v.K, .int .i64 v.N, .string v.S] tV))).on ((Below.refl _ _).alloc (Nat.le_refl _) (.cells #[.int .i64 v.K, .int .i64 v.N, .string v.S] tV)))
            have hga : (w3.alloc (.cells #[.int .i64 v.K, .int .i64 v.N, .string v.S] tV)).heap.size = w3.heap.size + 1 := by simp
            have HA3 : Hid (At3 ((w3.alloc (.cells #[.int .i64 v.K, .int .i64 v.N, .string v.S] tV)).alloc (.cells #[.int .i64 v.K, .int .i64 v.N, .string v.S] tV)) (w3.heap.size + 1) 0 v) := hid (by
              have h := at3_new v (w3.alloc (.cells #[.int .i64 v.K, .int .i64 v.N, .string v.S] tV))
              rw [hga] at h
              exact h)
            clear hdec hga
            go_wp2_with (at_builtin; refine wpList_append_val rfl (.tmp 40) (.tmp 42) rfl w.heap.size u7 rs rfl HOA.out (Below.refl _ _) (by simp; omega) (w3.heap.size + 1) v rfl HA3.out (by omega) ?_)
            intro d' w4 hown' hbel'
            have HN := hid hown'
            have HB4 := hid (HBC.out.trans hbel')
            clear hown' hbel'
            go_wp2
            go_roundw
            case rel => exact ⟨j + 1, m, rs ++ [v], by omega, hm, by simp [hlen], by go_num, rfl, HN, HDec, HB4⟩
            case measure => simp [intOf]; omega
          · have hne : (q == 0) = false := by simpa using hq
            have hx := HX.out
            rw [hdec] at hx
            have hx' : (⟨[], q⟩ : Rr) = x := hx
            subst hx'
            have HBA := hid (HB3.out.alloc hsz3 (.cells #[.int .i64 v.K, .int .i64 v.N, .string v.S] tV))
            clear hx hdec hq
            go_wp2
            go_ret2
            exact ⟨⟨_, rfl, RowAt.nil _ _ _⟩, HBA.out⟩
        · have hjn : j = n := by omega
          subst hjn
          have hlt' : ¬ (j : Int) < j := by omega
          have hx := HX.out
          have hd := HD.out
          rw [Nat.sub_self] at hd
          have hd' : decN j ((bl s).drop k) = .ok rs ((bl s).drop p) := by
            rw [hd]
            show Ds.ok (rs ++ []) _ = _
            rw [List.append_nil]
          rw [hd'] at hx
          have HRow := hid (OwnR.row HOw.out (by unfold maxLen; omega))
          by_cases hpe : p = s.size
          · have he : (bl s).drop p = [] := List.drop_of_length_le (by rw [bl_len]; omega)
            rw [he, Ds.fin_nil] at hx
            subst hx
            have hpi : ((p : Int) == (s.size : Int)) = true := by rw [beq_iff_eq]; omega
            clear hd hd' he
            go_wp2
            go_ret2
            exact ⟨⟨_, rfl, HRow.out⟩, HB.out⟩
          · have he : (bl s).drop p ≠ [] := fun e => by
              have := congrArg List.length e
              rw [List.length_drop, bl_len, List.length_nil] at this
              omega
            rw [Ds.fin_more rs he] at hx
            subst hx
            have hpi : ((p : Int) == (s.size : Int)) = false := by rw [beq_eq_false_iff_ne]; omega
            clear hd hd' he
            go_wp2
            go_ret2
            exact ⟨⟨_, rfl, RowAt.nil _ _ _⟩, HB.out⟩
  · rw [if_pos hq] at hx
    subst hx
    have hq' : (q == 0) = false := by simpa using hq
    go_enter Tryz.func36, Tryz.ntmps36
    go_wp2_with fail
    refine (HU.out _).mono ?_
    rintro e w5 ⟨rfl, rfl⟩
    go_wp2
    go_ret2
    exact ⟨⟨_, rfl, RowAt.nil _ _ _⟩, Below.refl _ _⟩
end Ro
end Go.Proofs.YtiellodbkanciaaGreatDoor
