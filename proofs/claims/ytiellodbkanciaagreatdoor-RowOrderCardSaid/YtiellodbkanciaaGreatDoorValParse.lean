/-
  Contract of the project's Parse.
-/
import Derived.Test.YtiellodbkanciaaGreatDoorValQuoted
import Derived.Test.YtiellodbkanciaaGreatDoorGrpValC
namespace Go.Proofs.YtiellodbkanciaaGreatDoor
open Go.RowKit
namespace Va
open Num (hid)
set_option maxRecDepth 100000 in
set_option maxHeartbeats 4000000 in
theorem parse_any (s : ByteArray) (hs : s.size ≤ maxLen) (w : World) (g : Glob w) :
    Calls Tryz.prog 132 #[.string s] w fun e w' => e = .returned (uV (parseL (bl s))) ∧ Below w.heap.size w w' := by
  have Hg := hid g
  clear g
  rw [parse_eq]
  cases h0 : nullL.isPrefixOf (bl s) with
  | true =>
    rw [if_pos rfl]
    have H0 := hid h0
    clear h0
    have X1 := hid (Bx.new 0 0 ⟨#[]⟩ w)
    go_enter Tryz.func132, Tryz.ntmps132
    go_wp2_with fail
    refine (hp_c s ⟨#[110, 117, 108, 108]⟩ true H0.out _).mono ?_
    rintro e w' ⟨rfl, rfl⟩
    go_wp2
    exact bodyPost_ret (v := uV ⟨0, 0, [], 4, 0⟩) (by simp [results, uV, bs, go_sem]) rfl ⟨rfl, (Below.refl _ _).alloc (Nat.le_refl _) _⟩
  | false =>
    rw [if_neg Bool.false_ne_true]
    have H0 := hid h0
    clear h0
    cases h1 : [39].isPrefixOf (bl s) with
    | true =>
      rw [if_pos rfl]
      have H1 := hid h1
      have hl := prefix_len h1
      rw [bl_len] at hl
      have hq := qtext_any s hl hs
      generalize quotedU 2 1 (pq 2000 ((bl s).drop 1)) = u at hq ⊢
      have Hq := hid hq
      clear h1 hl hq hs
      have X1 := hid (Bx.new 0 0 ⟨#[]⟩ w)
      have B1 := hid ((Below.refl w.heap.size w).alloc (Nat.le_refl _) (.cells #[.int .i64 0, .int .i64 0, .string ⟨#[]⟩] 78))
      have i0 : ∀ w, (Instr.index 160 (.agg #[.int .i64 2, .int .i64 3]) (.int .i64 0)).run Tryz.prog w = .ok (.int .i64 2) w := fun _ => by kernel_rfl
      have i1 : ∀ w, (Instr.index 160 (.agg #[.int .i64 2, .int .i64 3]) (.int .i64 1)).run Tryz.prog w = .ok (.int .i64 3) w := fun _ => by kernel_rfl
      go_enter Tryz.func132, Tryz.ntmps132
      go_wp2_with fail
      refine (hp_c s ⟨#[110, 117, 108, 108]⟩ false H0.out _).mono ?_
      rintro e w' ⟨rfl, rfl⟩
      go_wp2
      go_loop [11] (fun i => i = .int .i64 0) (fun i => 2 - (intOf i).toNat)
      case atStart => rfl
      case round =>
        subst hrel
        go_wp2_with fail
        refine (open_text _).mono ?_
        rintro e w' ⟨rfl, rfl⟩
        go_wp2_with fail
        refine (hp_c s ⟨#[39]⟩ true H1.out _).mono ?_
        rintro e w' ⟨rfl, rfl⟩
        go_wp2_with fail
        refine (Hq.out _ (Hg.out.on B1.out)).mono ?_
        rintro e w5 ⟨rfl, hb5⟩
        obtain ⟨r0, r1, r2⟩ := (X1.out.on hb5).cells
        obtain ⟨f0, f1, f2⟩ := (X1.out.on hb5).free
        have hszw5 := lt_of_block (X1.out.on hb5)
        have BW := hid (B1.out.trans (hb5.mono B1.out.size))
        clear hb5
        unfold uV
        go_wp2
        exact bodyPost_ret (v := uV u) (by simp [results, uV, go_sem, r0, r1, r2]) rfl ⟨rfl, by
          repeat (first | exact BW.out | refine Below.setCell ?_ (by simp) _)⟩
    | false =>
      rw [if_neg Bool.false_ne_true]
      have H1 := hid h1
      clear h1
      cases h2 : [120, 39].isPrefixOf (bl s) with
      | true =>
        rw [if_pos rfl]
        have H2 := hid h2
        have hl := prefix_len h2
        rw [bl_len] at hl
        have hq := qblob_any s hl hs
        generalize quotedU 3 2 (pq 2000 ((bl s).drop 2)) = u at hq ⊢
        have Hq := hid hq
        clear h2 hl hq hs
        have X1 := hid (Bx.new 0 0 ⟨#[]⟩ w)
        have B1 := hid ((Below.refl w.heap.size w).alloc (Nat.le_refl _) (.cells #[.int .i64 0, .int .i64 0, .string ⟨#[]⟩] 78))
        have i0 : ∀ w, (Instr.index 160 (.agg #[.int .i64 2, .int .i64 3]) (.int .i64 0)).run Tryz.prog w = .ok (.int .i64 2) w := fun _ => by kernel_rfl
        have i1 : ∀ w, (Instr.index 160 (.agg #[.int .i64 2, .int .i64 3]) (.int .i64 1)).run Tryz.prog w = .ok (.int .i64 3) w := fun _ => by kernel_rfl
        go_enter Tryz.func132, Tryz.ntmps132
        go_wp2_with fail
        refine (hp_c s ⟨#[110, 117, 108, 108]⟩ false H0.out _).mono ?_
        rintro e w' ⟨rfl, rfl⟩
        go_wp2
        go_loop [11] (fun i => i = .int .i64 0 ∨ i = .int .i64 1) (fun i => 2 - (intOf i).toNat)
        case atStart => exact Or.inl rfl
        case round =>
          rcases hrel with rfl | rfl
          · go_wp2_with fail
            refine (open_text _).mono ?_
            rintro e w' ⟨rfl, rfl⟩
            go_wp2_with fail
            refine (hp_c s ⟨#[39]⟩ false H1.out _).mono ?_
            rintro e w' ⟨rfl, rfl⟩
            go_wp2
            go_round
            case rel => exact Or.inr rfl
            case measure => simp [intOf]
          · go_wp2_with fail
            refine (open_blob _).mono ?_
            rintro e w' ⟨rfl, rfl⟩
            go_wp2_with fail
            refine (hp_c s ⟨#[120, 39]⟩ true H2.out _).mono ?_
            rintro e w' ⟨rfl, rfl⟩
            go_wp2_with fail
            refine (Hq.out _ (Hg.out.on B1.out)).mono ?_
            rintro e w5 ⟨rfl, hb5⟩
            obtain ⟨r0, r1, r2⟩ := (X1.out.on hb5).cells
            obtain ⟨f0, f1, f2⟩ := (X1.out.on hb5).free
            have hszw5 := lt_of_block (X1.out.on hb5)
            have BW := hid (B1.out.trans (hb5.mono B1.out.size))
            clear hb5
            unfold uV
            go_wp2
            exact bodyPost_ret (v := uV u) (by simp [results, uV, go_sem, r0, r1, r2]) rfl ⟨rfl, by
              repeat (first | exact BW.out | refine Below.setCell ?_ (by simp) _)⟩
      | false =>
        rw [if_neg Bool.false_ne_true]
        have H2 := hid h2
        have hq := pint_any s hs
        generalize numU (pintL (bl s)) = u at hq ⊢
        have Hq := hid hq
        clear h2 hq hs
        have X1 := hid (Bx.new 0 0 ⟨#[]⟩ w)
        have B1 := hid ((Below.refl w.heap.size w).alloc (Nat.le_refl _) (.cells #[.int .i64 0, .int .i64 0, .string ⟨#[]⟩] 78))
        have i0 : ∀ w, (Instr.index 160 (.agg #[.int .i64 2, .int .i64 3]) (.int .i64 0)).run Tryz.prog w = .ok (.int .i64 2) w := fun _ => by kernel_rfl
        have i1 : ∀ w, (Instr.index 160 (.agg #[.int .i64 2, .int .i64 3]) (.int .i64 1)).run Tryz.prog w = .ok (.int .i64 3) w := fun _ => by kernel_rfl
        go_enter Tryz.func132, Tryz.ntmps132
        go_wp2_with fail
        refine (hp_c s ⟨#[110, 117, 108, 108]⟩ false H0.out _).mono ?_
        rintro e w' ⟨rfl, rfl⟩
        go_wp2
        go_loop [11] (fun i => i = .int .i64 0 ∨ i = .int .i64 1 ∨ i = .int .i64 2) (fun i => 2 - (intOf i).toNat)
        case atStart => exact Or.inl rfl
        case round =>
          rcases hrel with rfl | rfl | rfl
          · go_wp2_with fail
            refine (open_text _).mono ?_
            rintro e w' ⟨rfl, rfl⟩
            go_wp2_with fail
            refine (hp_c s ⟨#[39]⟩ false H1.out _).mono ?_
            rintro e w' ⟨rfl, rfl⟩
            go_wp2
            go_round
            case rel => exact Or.inr (Or.inl rfl)
            case measure => simp [intOf]
          · go_wp2_with fail
            refine (open_blob _).mono ?_
            rintro e w' ⟨rfl, rfl⟩
            go_wp2_with fail
            refine (hp_c s ⟨#[120, 39]⟩ false H2.out _).mono ?_
            rintro e w' ⟨rfl, rfl⟩
            go_wp2
            go_round
            case rel => exact Or.inr (Or.inr rfl)
            case measure => simp [intOf]
          · go_wp2_with fail
            refine (Hq.out _ (Hg.out.on B1.out)).mono ?_
            rintro e w5 ⟨rfl, hb5⟩
            obtain ⟨r0, r1, r2⟩ := (X1.out.on hb5).cells
            obtain ⟨f0, f1, f2⟩ := (X1.out.on hb5).free
            have hszw5 := lt_of_block (X1.out.on hb5)
            have BW := hid (B1.out.trans (hb5.mono B1.out.size))
            clear hb5
            unfold uV
            go_wp2
            exact bodyPost_ret (v := uV u) (by simp [results, uV, go_sem, r0, r1, r2]) rfl ⟨rfl, by
              repeat (first | exact BW.out | refine Below.setCell ?_ (by simp) _)⟩
end Va
end Go.Proofs.YtiellodbkanciaaGreatDoor
