/-
  Contract of the reference's Encode.
-/
import Derived.Test.YtkoglikaaehhjaaSpareDst
import Derived.BigQuiet
import Derived.Deep.QuietTactic
namespace Go.Proofs.Ytkoglikaaehhjaa
open Go.RowKit
namespace Sp
open Num (hid fixF)
open Mem (Bs bs IAt)
theorem rfixed_4 (n : Nat) (hn : n < 18446744073709551616) (w : World) : Calls Try.prog 28 #[.int .u64 (n : Nat), .int .i64 4] w fun e w' => e = .returned (.string (bs (fixF 4 n))) ∧ Below w.heap.size w w' := (Num.rfixed_any n hn 4 w).mono fun _ _ h => h
theorem rfixed_1 (n : Nat) (hn : n < 18446744073709551616) (w : World) : Calls Try.prog 28 #[.int .u64 (n : Nat), .int .i64 1] w fun e w' => e = .returned (.string (bs (fixF 1 n))) ∧ Below w.heap.size w w' := (Num.rfixed_any n hn 1 w).mono fun _ _ h => h
theorem full_short (l : Bs) (h : l.length < 232) : Part.full (bs l) = bs (l ++ zeros (232 - l.length)) := by
  unfold Part.full
  rw [if_neg (by rw [bs_size]; omega), bs_size, ← bs_append]
  rfl
theorem full_b (l : Bs) (h : l.length < 232) (w : World) : Calls Try.prog 29 #[.string (bs l)] w fun e w' => e = .returned (.string (bs (l ++ zeros (232 - l.length)))) ∧ Below w.heap.size w w' := by
  rw [← full_short l h]
  exact Part.full_any (bs l) w
/-- The box of the trunk that came, and what was there. -/
structure Bx (w : World) (n : Int) (lv : Value) (wr : World) : Prop where
  tb : Tb w.heap.size n lv wr
  be : Below w.heap.size w wr
theorem Bx.new (w : World) (n : Int) (lv : Value) : Bx w n lv (w.alloc (tObj n lv)) := ⟨Tb.new n lv w, (Below.refl _ _).alloc (Nat.le_refl _) _⟩
theorem Bx.on {w : World} {n : Int} {lv : Value} {wr w' : World} (h : Bx w n lv wr) (hb : Below wr.heap.size wr w') : Bx w n lv w' := ⟨h.tb.on hb, h.be.trans (hb.mono h.be.size)⟩
set_option maxRecDepth 100000 in
set_option maxHeartbeats 4000000 in
theorem rencode_any (t : Tr) (lv : Value) (w : World) (h : IAt w lv t.list) :
    Calls Try.prog 10 #[trV t lv] w fun e w' => e = .returned (sV2 (encT t)) ∧ Below w.heap.size w w' := by
  obtain ⟨ao, cap, rfl, hm, -, hat⟩ := Mem.IAt.ways1 h
  have S0 := hid (Bx.new w t.next (.slice ao t.list.length cap))
  obtain ⟨c0, c1⟩ := S0.out.tb.cells
  have HK := hid hat
  unfold sV2
  by_cases hb : t.next < 0 ∨ 4095 < t.next ∨ 50 < t.list.length
  · have ho : okT t = false := by
      cases e : okT t
      · rfl
      · obtain ⟨⟨h1, h2⟩, h3, -⟩ := (okT_iff t).1 e
        omega
    rw [enc_bad ho]
    unfold trV
    obtain ⟨next, l⟩ := t
    simp only at *
    clear h hat ho
    rcases hb with h1 | hb
    · go_enter Try.func10, Try.ntmps10
      go_wp2
      go_ret2
      exact ⟨rfl, S0.out.be⟩
    · by_cases h1 : next < 0
      · go_enter Try.func10, Try.ntmps10
        go_wp2
        go_ret2
        exact ⟨rfl, S0.out.be⟩
      · rcases hb with h2 | hb
        · go_enter Try.func10, Try.ntmps10
          go_wp2
          go_ret2
          exact ⟨rfl, S0.out.be⟩
        · by_cases h2 : 4095 < next
          · go_enter Try.func10, Try.ntmps10
            go_wp2
            go_ret2
            exact ⟨rfl, S0.out.be⟩
          · have h3 : (50 : Int) < (l.length : Int) := by omega
            go_enter Try.func10, Try.ntmps10
            go_wp2
            go_ret2
            exact ⟨rfl, S0.out.be⟩
  · have h1 : ¬ t.next < 0 := by omega
    have h2 : ¬ 4095 < t.next := by omega
    have h3 : ¬ (50 : Int) < (t.list.length : Int) := by omega
    have hok : okT t = t.list.all okP := by
      unfold okT
      rw [decide_eq_true (by omega : 0 ≤ t.next), decide_eq_true (by omega : t.next < 4096), decide_eq_true (by omega : t.list.length ≤ 50)]
      rfl
    have HOK := hid hok
    have HL := hid (upto_len t)
    have HNx := hid (fun k (h : k < t.list.length) => upto_next t h)
    have HU0 : Hid (upto t 0 = ([4] ++ fixF 4 t.next.toNat) ++ fixF 1 t.list.length) := hid (by unfold upto headT nums; simp)
    have HU1 : Hid (upto t t.list.length ++ zeros (232 - (6 + t.list.length * 4)) = pageT t) := hid (by rw [upto_all t (Nat.le_refl _)]; unfold pageT; rw [body_len])
    have HP := hid (fun e => (enc_good (t := t) e))
    have HN := hid (fun e => (enc_bad (t := t) e))
    clear h hat hok
    unfold trV at *
    generalize hP : pageT t = P at *
    generalize hE : encT t = E at *
    clear hP hE
    obtain ⟨nl, hnl⟩ : ∃ x, t.list.length = x := ⟨_, rfl⟩
    obtain ⟨m, hm0⟩ : ∃ m : Nat, t.next = (m : Int) := ⟨t.next.toNat, by omega⟩
    rw [hnl] at S0 HL HU0 HU1 h3 c0 c1 ⊢
    rw [hm0] at S0 HU0 h1 h2 c0 c1 ⊢
    rw [show ((m : Int)).toNat = m from rfl] at HU0
    have hu0 : IntKind.u64.wrap (m : Int) = (m : Int) := u64_id (by omega)
    have hu1 : IntKind.u64.wrap (nl : Int) = (nl : Int) := u64_id (by omega)
    have HF4 := hid (rfixed_4 m (by omega))
    have HF1 := hid (rfixed_1 nl (by omega))
    have HNL := hid hnl
    have hlb := S0.out.tb.lt
    have C0 := hid (fun wx (hx : Below (w.alloc (tObj (m : Int) (.slice ao nl cap))).heap.size (w.alloc (tObj (m : Int) (.slice ao nl cap))) wx) => (hx.cell (p := ⟨w.heap.size, 0, none⟩) hlb).trans c0)
    have C1 := hid (fun wx (hx : Below (w.alloc (tObj (m : Int) (.slice ao nl cap))).heap.size (w.alloc (tObj (m : Int) (.slice ao nl cap))) wx) => (hx.cell (p := ⟨w.heap.size, 1, none⟩) hlb).trans c1)
    have t1 : ¬ 9223372036854775807 < (bs [4]).size + (bs (fixF 4 m)).size := by rw [bs_size, bs_size, Num.fixF_length]; decide
    have t2 : ¬ 9223372036854775807 < (bs ([4] ++ fixF 4 m)).size + (bs (fixF 1 nl)).size := by rw [bs_size, bs_size, List.length_append, Num.fixF_length, Num.fixF_length]; decide
    have b4 : (⟨#[4]⟩ : ByteArray) = bs [4] := rfl
    have e2 : (bs [4] ++ bs (fixF 4 m)) ++ bs (fixF 1 nl) = bs (upto t 0) := by rw [HU0.out, bs_append, bs_append]
    rw [← bs_append] at t2
    obtain ⟨X1, e1⟩ : ∃ X, bs [4] ++ bs (fixF 4 m) = X := ⟨_, rfl⟩
    rw [e1] at t2 e2
    clear hnl hm0 hm
    go_enter Try.func10, Try.ntmps10
    go_wp2_with fail
    generalize w.alloc (tObj (m : Int) (.slice ao nl cap)) = z at *
    refine Part.wp_region_quiet_in (fun wx => Below z.heap.size z wx) (by kernel_rfl) (by kernel_rfl) (Below.refl _ _).drew ?_
    go_big_quiet_want
    go_big_quiet_op
    refine ⟨.pointer (some ⟨w.heap.size, 0, none⟩), fun wx hx => ?_, ?_⟩
    · simp [go_sem]
    go_big_quiet_on
    go_big_quiet_want
    go_big_quiet_op
    refine ⟨.int .i64 (m : Int), fun wx hx => ?_, ?_⟩
    · simp [go_sem, C0.out wx hx]
    go_big_quiet_on
    go_big_quiet_want
    go_big_quiet_op
    refine ⟨.int .u64 (m : Int), fun wx hx => ?_, ?_⟩
    · simp [go_sem]
    go_big_quiet_on
    go_big_quiet_want
    go_big_quiet_op
    refine ⟨.string (bs (fixF 4 m)), fun wx hx => ?_, ?_⟩
    · refine (HF4.out _).mono ?_
      rintro e w9 ⟨rfl, hb9⟩
      exact ⟨rfl, hx.trans (hb9.mono hx.size)⟩
    go_big_quiet_on
    go_big_quiet_want
    go_big_quiet_op
    refine ⟨.string X1, fun wx hx => ?_, ?_⟩
    · simp [go_sem]
    go_big_quiet_on
    go_big_quiet_want
    go_big_quiet_op
    refine ⟨.pointer (some ⟨w.heap.size, 1, none⟩), fun wx hx => ?_, ?_⟩
    · simp [go_sem]
    go_big_quiet_on
    go_big_quiet_want
    go_big_quiet_op
    refine ⟨.slice ao nl cap, fun wx hx => ?_, ?_⟩
    · simp [go_sem, C1.out wx hx]
    go_big_quiet_on
    go_big_quiet_want
    go_big_quiet_op
    refine ⟨.int .i64 (nl : Int), fun wx hx => ?_, ?_⟩
    · simp [go_sem]
    go_big_quiet_on
    go_big_quiet_want
    go_big_quiet_op
    refine ⟨.int .u64 (nl : Int), fun wx hx => ?_, ?_⟩
    · simp [go_sem]
    go_big_quiet_on
    go_big_quiet_want
    go_big_quiet_op
    refine ⟨.string (bs (fixF 1 nl)), fun wx hx => ?_, ?_⟩
    · refine (HF1.out _).mono ?_
      rintro e w9 ⟨rfl, hb9⟩
      exact ⟨rfl, hx.trans (hb9.mono hx.size)⟩
    go_big_quiet_on
    go_big_quiet_want
    go_big_quiet_op
    refine ⟨.string (bs (upto t 0)), fun wx hx => ?_, ?_⟩
    · simp [go_sem]
    go_big_quiet_on
    go_big_quiet_want
    go_big_quiet_op
    go_big_quiet_on
    refine wpQuiet_nil ?_
    intro w5 hb5
    have S1 := hid (S0.out.on hb5)
    clear hb5 C0 C1 c0 c1 t1 t2 b4 e1 e2 hlb h1 h2
    obtain ⟨c0, c1⟩ := S1.out.tb.cells
    go_wp2_with fail
    go_loopw [4, 5] (fun s i wr => ∃ k : Nat, k ≤ nl ∧ i = .int .i64 k ∧ s = .string (bs (upto t k)) ∧ (∀ j (hj : j < t.list.length), j < k → okP t.list[j] = true) ∧ Hid (Bx w (m : Int) (.slice ao nl cap) wr)) (fun _ i _ => nl - (intOf i).toNat)
    case atStart => exact ⟨0, Nat.zero_le _, rfl, rfl, fun j _ hj => absurd hj (Nat.not_lt_zero _), S1⟩
    case round =>
      obtain ⟨k, hk, rfl, rfl, hp, HS⟩ := hrel
      have HQ := hid hp
      have hul := HL.out k hk
      clear c0 c1 hp
      obtain ⟨c0, c1⟩ := HS.out.tb.cells
      by_cases hlt : k < nl
      · have hlt' : (k : Int) < nl := by omega
        have i1 : k < t.list.length := by have := HNL.out; omega
        obtain ⟨b, o, rfl, hbl, x0⟩ := HK.out k i1
        have y0 := (HS.out.be.cell (p := ⟨b, o + k, none⟩) hbl).trans x0
        have HNk := HNx.out k i1
        by_cases hg : okP t.list[k] = true
        · have hg2 := (okP_iff _).1 hg
          have HQ2 : Hid (∀ j (hj : j < t.list.length), j < k + 1 → okP t.list[j] = true) := hid (fun j hj hjk => by
            by_cases e : j < k
            · exact HQ.out j hj e
            · obtain rfl : j = k := by omega
              exact hg)
          obtain ⟨x, hx0⟩ : ∃ x : Nat, t.list[k] = (x : Int) := ⟨t.list[k].toNat, by omega⟩
          rw [hx0] at y0 HNk hg2
          have HN2 : Hid (upto t (k + 1) = upto t k ++ fixF 4 x) := hid HNk
          have hux : IntKind.u64.wrap (x : Int) = (x : Int) := u64_id (by omega)
          have HFx := hid (rfixed_4 x (by omega))
          have g1 : ¬ (x : Int) < 1 := by omega
          have g2 : ¬ 4095 < (x : Int) := by omega
          have t3 : ¬ 9223372036854775807 < (bs (upto t k)).size + (bs (fixF 4 x)).size := by rw [bs_size, bs_size, Num.fixF_length, hul]; omega
          clear x0 HNk hg hx0 i1
          go_wp2_with fail
          refine (HFx.out _).mono ?_
          rintro e w9 ⟨rfl, hb⟩
          have S6 := hid (HS.out.on hb)
          clear hb y0
          go_wp2
          go_roundw
          case rel => exact ⟨k + 1, by omega, by go_num, by rw [HN2.out, ← bs_append], HQ2.out, S6⟩
          case measure => simp [intOf]; omega
        · have hg' : okP t.list[k] = false := by simpa using hg
          have hE : E = ([], 1) := HN.out (by rw [HOK.out]; exact all_split i1 hg')
          subst hE
          have hg2 : t.list[k] < 1 ∨ 4095 < t.list[k] := by
            rcases Int.lt_or_le t.list[k] 1 with h | h
            · exact Or.inl h
            · rcases Int.lt_or_le t.list[k] 4096 with h4 | h4
              · exact absurd ((okP_iff _).2 ⟨h, h4⟩) hg
              · exact Or.inr (by omega)
          generalize t.list[k] = x at *
          clear x0 HNk HN HP
          rcases hg2 with g1 | g1
          · go_wp2
            go_ret2
            exact ⟨rfl, HS.out.be⟩
          · have g2 : ¬ x < 1 := by omega
            go_wp2
            go_ret2
            exact ⟨rfl, HS.out.be⟩
      · obtain rfl : k = nl := by omega
        have hlt' : ¬ (k : Int) < k := by omega
        have hE : E = (P, 0) := HP.out (by rw [HOK.out]; exact all_full (fun j hj => HQ.out j hj (by have := HNL.out; omega)))
        subst hE
        have hF := full_b (upto t k) (by omega)
        rw [hul, HU1.out] at hF
        have HF := hid hF
        clear hF HN HP
        go_wp2_with fail
        refine (HF.out _).mono ?_
        rintro e w9 ⟨rfl, hb⟩
        have S6 := hid (HS.out.on hb)
        clear hb c0 c1
        go_wp2
        go_ret2
        exact ⟨rfl, S6.out.be⟩
end Sp
end Go.Proofs.Ytkoglikaaehhjaa
