/-
  Put together: SpareRefEnc, SpareBook, SparePut, SpareDesk.
-/
import Derived.Test.YtkoglikaaehhjaaGreatDoorGrpSpA
import Derived.BigQuiet
import Derived.Deep.QuietTactic
/-
  Contract of the reference's Encode.
-/
namespace Go.Proofs.YtkoglikaaehhjaaGreatDoor
open Go.RowKit
namespace Sp
open Num (hid fixF)
open Mem (Bs bs IAt)
theorem rfixed_4 (n : Nat) (hn : n < 18446744073709551616) (w : World) : Calls Tryz.prog 69 #[.int .u64 (n : Nat), .int .i64 4] w fun e w' => e = .returned (.string (bs (fixF 4 n))) ∧ Below w.heap.size w w' := (Num.rfixed_any n hn 4 w).mono fun _ _ h => h
theorem rfixed_1 (n : Nat) (hn : n < 18446744073709551616) (w : World) : Calls Tryz.prog 69 #[.int .u64 (n : Nat), .int .i64 1] w fun e w' => e = .returned (.string (bs (fixF 1 n))) ∧ Below w.heap.size w w' := (Num.rfixed_any n hn 1 w).mono fun _ _ h => h
theorem full_short (l : Bs) (h : l.length < 232) : Part.full (bs l) = bs (l ++ zeros (232 - l.length)) := by
  unfold Part.full
  rw [if_neg (by rw [bs_size]; omega), bs_size, ← bs_append]
  rfl
theorem full_b (l : Bs) (h : l.length < 232) (w : World) : Calls Tryz.prog 27 #[.string (bs l)] w fun e w' => e = .returned (.string (bs (l ++ zeros (232 - l.length)))) ∧ Below w.heap.size w w' := by
  rw [← full_short l h]
  exact Part.full_any (bs l) w
/-- The box of the trunk that came, and what was there. -/
structure Bx (w : World) (n : Int) (lv : Value) (wr : World) : Prop where
  tb : Tb w.heap.size n lv wr
  be : Below w.heap.size w wr
theorem Bx.new (w : World) (n : Int) (lv : Value) : Bx w n lv (w.alloc (tObj n lv)) := ⟨Tb.new n lv w, (Below.refl _ _).alloc (Nat.le_refl _) _⟩
theorem Bx.on {w : World} {n : Int} {lv : Value} {wr w' : World} (h : Bx w n lv wr) (hb : Below wr.heap.size wr w') : Bx w n lv w' := ⟨h.tb.on hb, h.be.trans (hb.mono h.be.size)⟩
set_option maxRecDepth 100000 in
set_option maxHeartbeats 4000000 in
theorem rencode_any (t : Tr) (lv : Value) (w : World) (h : IAt w lv t.list) :
    Calls Tryz.prog 54 #[trV t lv] w fun e w' => e = .returned (sV2 (encT t)) ∧ Below w.heap.size w w' := by
  obtain ⟨ao, cap, rfl, hm, -, hat⟩ := Mem.IAt.ways1 h
  have S0 := hid (Bx.new w t.next (.slice ao t.list.length cap))
  obtain ⟨c0, c1⟩ := S0.out.tb.cells
  have HK := hid hat
  unfold sV2
  by_cases hb : t.next < 0 ∨ 4095 < t.next ∨ 50 < t.list.length
  · have ho : okT t = false := by
      cases e : okT t
      · rfl
      · obtain ⟨⟨h1, h2⟩, h3, -⟩ := (okT_iff t).1 e
        omega
    rw [enc_bad ho]
    unfold trV
    obtain ⟨next, l⟩ := t
    simp only at *
    clear h hat ho
    rcases hb with h1 | hb
    · go_enter Tryz.func54, Tryz.ntmps54
      go_wp2
      go_ret2
      exact ⟨rfl, S0.out.be⟩
    · by_cases h1 : next < 0
      · go_enter Tryz.func54, Tryz.ntmps54
        go_wp2
        go_ret2
        exact ⟨rfl, S0.out.be⟩
      · rcases hb with h2 | hb
        · go_enter Tryz.func54, Tryz.ntmps54
          go_wp2
          go_ret2
          exact ⟨rfl, S0.out.be⟩
        · by_cases h2 : 4095 < next
          · go_enter Tryz.func54, Tryz.ntmps54
            go_wp2
            go_ret2
            exact ⟨rfl, S0.out.be⟩
          · have h3 : (50 : Int) < (l.length : Int) := by omega
            go_enter Tryz.func54, Tryz.ntmps54
            go_wp2
            go_ret2
            exact ⟨rfl, S0.out.be⟩
  · have h1 : ¬ t.next < 0 := by omega
    have h2 : ¬ 4095 < t.next := by omega
    have h3 : ¬ (50 : Int) < (t.list.length : Int) := by omega
    have hok : okT t = t.list.all okP := by
      unfold okT
      rw [decide_eq_true (by omega : 0 ≤ t.next), decide_eq_true (by omega : t.next < 4096), decide_eq_true (by omega : t.list.length ≤ 50)]
      rfl
    have HOK := hid hok
    have HL := hid (upto_len t)
    have HNx := hid (fun k (h : k < t.list.length) => upto_next t h)
    have HU0 : Hid (upto t 0 = ([4] ++ fixF 4 t.next.toNat) ++ fixF 1 t.list.length) := hid (by unfold upto headT nums; simp)
    have HU1 : Hid (upto t t.list.length ++ zeros (232 - (6 + t.list.length * 4)) = pageT t) := hid (by rw [upto_all t (Nat.le_refl _)]; unfold pageT; rw [body_len])
    have HP := hid (fun e => (enc_good (t := t) e))
    have HN := hid (fun e => (enc_bad (t := t) e))
    clear h hat hok
    unfold trV at *
    generalize hP : pageT t = P at *
    generalize hE : encT t = E at *
    clear hP hE
    obtain ⟨nl, hnl⟩ : ∃ x, t.list.length = x := ⟨_, rfl⟩
    obtain ⟨m, hm0⟩ : ∃ m : Nat, t.next = (m : Int) := ⟨t.next.toNat, by omega⟩
    rw [hnl] at S0 HL HU0 HU1 h3 c0 c1 ⊢
    rw [hm0] at S0 HU0 h1 h2 c0 c1 ⊢
    rw [show ((m : Int)).toNat = m from rfl] at HU0
    have hu0 : IntKind.u64.wrap (m : Int) = (m : Int) := u64_id (by omega)
    have hu1 : IntKind.u64.wrap (nl : Int) = (nl : Int) := u64_id (by omega)
    have HF4 := hid (rfixed_4 m (by omega))
    have HF1 := hid (rfixed_1 nl (by omega))
    have HNL := hid hnl
    have hlb := S0.out.tb.lt
    have C0 := hid (fun wx (hx : Below (w.alloc (tObj (m : Int) (.slice ao nl cap))).heap.size (w.alloc (tObj (m : Int) (.slice ao nl cap))) wx) => (hx.cell (p := ⟨w.heap.size, 0, none⟩) hlb).trans c0)
    have C1 := hid (fun wx (hx : Below (w.alloc (tObj (m : Int) (.slice ao nl cap))).heap.size (w.alloc (tObj (m : Int) (.slice ao nl cap))) wx) => (hx.cell (p := ⟨w.heap.size, 1, none⟩) hlb).trans c1)
    have t1 : ¬ 9223372036854775807 < (bs [4]).size + (bs (fixF 4 m)).size := by rw [bs_size, bs_size, Num.fixF_length]; decide
    have t2 : ¬ 9223372036854775807 < (bs ([4] ++ fixF 4 m)).size + (bs (fixF 1 nl)).size := by rw [bs_size, bs_size, List.length_append, Num.fixF_length, Num.fixF_length]; decide
    have b4 : (⟨#[4]⟩ : ByteArray) = bs [4] := rfl
    have e2 : (bs [4] ++ bs (fixF 4 m)) ++ bs (fixF 1 nl) = bs (upto t 0) := by rw [HU0.out, bs_append, bs_append]
    rw [← bs_append] at t2
    obtain ⟨X1, e1⟩ : ∃ X, bs [4] ++ bs (fixF 4 m) = X := ⟨_, rfl⟩
    rw [e1] at t2 e2
    clear hnl hm0 hm
    go_enter Tryz.func54, Tryz.ntmps54
    go_wp2_with fail
    generalize w.alloc (tObj (m : Int) (.slice ao nl cap)) = z at *
    refine Part.wp_region_quiet_in (fun wx => Below z.heap.size z wx) (by kernel_rfl) (by kernel_rfl) (Below.refl _ _).drew ?_
    go_big_quiet_want
    go_big_quiet_op
    refine ⟨.pointer (some ⟨w.heap.size, 0, none⟩), fun wx hx => ?_, ?_⟩
    · simp [go_sem]
    go_big_quiet_on
    go_big_quiet_want
    go_big_quiet_op
    refine ⟨.int .i64 (m : Int), fun wx hx => ?_, ?_⟩
    · simp [go_sem, C0.out wx hx]
    go_big_quiet_on
    go_big_quiet_want
    go_big_quiet_op
    refine ⟨.int .u64 (m : Int), fun wx hx => ?_, ?_⟩
    · simp [go_sem]
    go_big_quiet_on
    go_big_quiet_want
    go_big_quiet_op
    refine ⟨.string (bs (fixF 4 m)), fun wx hx => ?_, ?_⟩
    · refine (HF4.out _).mono ?_
      rintro e w9 ⟨rfl, hb9⟩
      exact ⟨rfl, hx.trans (hb9.mono hx.size)⟩
    go_big_quiet_on
    go_big_quiet_want
    go_big_quiet_op
    refine ⟨.string X1, fun wx hx => ?_, ?_⟩
    · simp [go_sem]
    go_big_quiet_on
    go_big_quiet_want
    go_big_quiet_op
    refine ⟨.pointer (some ⟨w.heap.size, 1, none⟩), fun wx hx => ?_, ?_⟩
    · simp [go_sem]
    go_big_quiet_on
    go_big_quiet_want
    go_big_quiet_op
    refine ⟨.slice ao nl cap, fun wx hx => ?_, ?_⟩
    · simp [go_sem, C1.out wx hx]
    go_big_quiet_on
    go_big_quiet_want
    go_big_quiet_op
    refine ⟨.int .i64 (nl : Int), fun wx hx => ?_, ?_⟩
    · simp [go_sem]
    go_big_quiet_on
    go_big_quiet_want
    go_big_quiet_op
    refine ⟨.int .u64 (nl : Int), fun wx hx => ?_, ?_⟩
    · simp [go_sem]
    go_big_quiet_on
    go_big_quiet_want
    go_big_quiet_op
    refine ⟨.string (bs (fixF 1 nl)), fun wx hx => ?_, ?_⟩
    · refine (HF1.out _).mono ?_
      rintro e w9 ⟨rfl, hb9⟩
      exact ⟨rfl, hx.trans (hb9.mono hx.size)⟩
    go_big_quiet_on
    go_big_quiet_want
    go_big_quiet_op
    refine ⟨.string (bs (upto t 0)), fun wx hx => ?_, ?_⟩
    · simp [go_sem]
    go_big_quiet_on
    go_big_quiet_want
    go_big_quiet_op
    go_big_quiet_on
    refine wpQuiet_nil ?_
    intro w5 hb5
    have S1 := hid (S0.out.on hb5)
    clear hb5 C0 C1 c0 c1 t1 t2 b4 e1 e2 hlb h1 h2
    obtain ⟨c0, c1⟩ := S1.out.tb.cells
    go_wp2_with fail
    go_loopw [4, 5] (fun s i wr => ∃ k : Nat, k ≤ nl ∧ i = .int .i64 k ∧ s = .string (bs (upto t k)) ∧ (∀ j (hj : j < t.list.length), j < k → okP t.list[j] = true) ∧ Hid (Bx w (m : Int) (.slice ao nl cap) wr)) (fun _ i _ => nl - (intOf i).toNat)
    case atStart => exact ⟨0, Nat.zero_le _, rfl, rfl, fun j _ hj => absurd hj (Nat.not_lt_zero _), S1⟩
    case round =>
      obtain ⟨k, hk, rfl, rfl, hp, HS⟩ := hrel
      have HQ := hid hp
      have hul := HL.out k hk
      clear c0 c1 hp
      obtain ⟨c0, c1⟩ := HS.out.tb.cells
      by_cases hlt : k < nl
      · have hlt' : (k : Int) < nl := by omega
        have i1 : k < t.list.length := by have := HNL.out; omega
        obtain ⟨b, o, rfl, hbl, x0⟩ := HK.out k i1
        have y0 := (HS.out.be.cell (p := ⟨b, o + k, none⟩) hbl).trans x0
        have HNk := HNx.out k i1
        by_cases hg : okP t.list[k] = true
        · have hg2 := (okP_iff _).1 hg
          have HQ2 : Hid (∀ j (hj : j < t.list.length), j < k + 1 → okP t.list[j] = true) := hid (fun j hj hjk => by
            by_cases e : j < k
            · exact HQ.out j hj e
            · obtain rfl : j = k := by omega
              exact hg)
          obtain ⟨x, hx0⟩ : ∃ x : Nat, t.list[k] = (x : Int) := ⟨t.list[k].toNat, by omega⟩
          rw [hx0] at y0 HNk hg2
          have HN2 : Hid (upto t (k + 1) = upto t k ++ fixF 4 x) := hid HNk
          have hux : IntKind.u64.wrap (x : Int) = (x : Int) := u64_id (by omega)
          have HFx := hid (rfixed_4 x (by omega))
          have g1 : ¬ (x : Int) < 1 := by omega
          have g2 : ¬ 4095 < (x : Int) := by omega
          have t3 : ¬ 9223372036854775807 < (bs (upto t k)).size + (bs (fixF 4 x)).size := by rw [bs_size, bs_size, Num.fixF_length, hul]; omega
          clear x0 HNk hg hx0 i1
          go_wp2_with fail
          refine (HFx.out _).mono ?_
          rintro e w9 ⟨rfl, hb⟩
          have S6 := hid (HS.out.on hb)
          clear hb y0
          go_wp2
          go_roundw
          case rel => exact ⟨k + 1, by omega, by go_num, by rw [HN2.out, ← bs_append], HQ2.out, S6⟩
          case measure => simp [intOf]; omega
        · have hg' : okP t.list[k] = false := by simpa using hg
          have hE : E = ([], 1) := HN.out (by rw [HOK.out]; exact all_split i1 hg')
          subst hE
          have hg2 : t.list[k] < 1 ∨ 4095 < t.list[k] := by
            rcases Int.lt_or_le t.list[k] 1 with h | h
            · exact Or.inl h
            · rcases Int.lt_or_le t.list[k] 4096 with h4 | h4
              · exact absurd ((okP_iff _).2 ⟨h, h4⟩) hg
              · exact Or.inr (by omega)
          generalize t.list[k] = x at *
          clear x0 HNk HN HP
          rcases hg2 with g1 | g1
          · go_wp2
            go_ret2
            exact ⟨rfl, HS.out.be⟩
          · have g2 : ¬ x < 1 := by omega
            go_wp2
            go_ret2
            exact ⟨rfl, HS.out.be⟩
      · obtain rfl : k = nl := by omega
        have hlt' : ¬ (k : Int) < k := by omega
        have hE : E = (P, 0) := HP.out (by rw [HOK.out]; exact all_full (fun j hj => HQ.out j hj (by have := HNL.out; omega)))
        subst hE
        have hF := full_b (upto t k) (by omega)
        rw [hul, HU1.out] at hF
        have HF := hid hF
        clear hF HN HP
        go_wp2_with fail
        refine (HF.out _).mono ?_
        rintro e w9 ⟨rfl, hb⟩
        have S6 := hid (HS.out.on hb)
        clear hb c0 c1
        go_wp2
        go_ret2
        exact ⟨rfl, S6.out.be⟩
end Sp
end Go.Proofs.YtkoglikaaehhjaaGreatDoor

/-
  A book of pages of the call's own: the struct and its two rows; place, Get, Put.
-/
namespace Go.Proofs.YtkoglikaaehhjaaGreatDoor
open Go.RowKit
namespace Sp
open Num (hid)
open Mem (Bs bs tI tS tIs tSs Chg Row ptr blk_cell blk_free blk_new blk_set blk_other blk_alloc row_kept row_shape row_type wpList_append_run)
abbrev tBk : TypeId := 77
abbrev keysV (B : Book) : List Value := B.map fun x => Value.int .i64 x.1
abbrev datasV (B : Book) : List Value := B.map fun x => Value.string (bs x.2)
structure BookAt (R : Nat → Prop) (w : World) (b : Nat) (nv dv : Value) (B : Book) : Prop where
  blk : w.heap[b]? = some (.cells #[nv, dv] tBk (0, 0))
  own : R b
  keys : Row R w tI 1 nv B.length (keysV B)
  datas : Row R w tS 1 dv B.length (datasV B)
def BookR (R : Nat → Prop) (w : World) (b : Nat) (B : Book) : Prop := ∃ nv dv, BookAt R w b nv dv B
theorem BookAt.kept {R F : Nat → Prop} {w w' : World} {b : Nat} {nv dv : Value} {B : Book} (h : BookAt R w b nv dv B) (hc : Chg F w w') (hF : ∀ k, F k → ¬ R k) : BookAt R w' b nv dv B :=
  ⟨hc.at h.blk (fun e => hF b e h.own), h.own, h.keys.kept hc (fun g hg e => hF g e (h.keys.2 g hg)), h.datas.kept hc (fun g hg e => hF g e (h.datas.2 g hg))⟩
theorem BookR.apart {R F : Nat → Prop} {w w' : World} {b : Nat} {B : Book} (h : BookR R w b B) (hc : Chg F w w') (hF : ∀ k, F k → ¬ R k) : BookR R w' b B := by
  obtain ⟨nv, dv, h⟩ := h
  exact ⟨nv, dv, h.kept hc hF⟩
theorem BookR.on {R : Nat → Prop} {w w' : World} {b : Nat} {B : Book} (h : BookR R w b B) (hb : Below w.heap.size w w') : BookR R w' b B := h.apart (F := fun _ => False) (Chg.of_below hb) (fun _ h => h.elim)
theorem BookR.mono {R R' : Nat → Prop} {w : World} {b : Nat} {B : Book} (h : BookR R w b B) (hR : ∀ g, g < w.heap.size → R g → R' g) : BookR R' w b B := by
  obtain ⟨nv, dv, h⟩ := h
  exact ⟨nv, dv, h.blk, hR b (lt_of_block h.blk) h.own, h.keys.mono hR, h.datas.mono hR⟩
theorem BookR.lt {R : Nat → Prop} {w : World} {b : Nat} {B : Book} (h : BookR R w b B) : b < w.heap.size := by
  obtain ⟨nv, dv, h⟩ := h
  exact lt_of_block h.blk
/-- The rows' values, and where their cells are. -/
theorem BookAt.shape {R : Nat → Prop} {w : World} {b : Nat} {nv dv : Value} {B : Book} (h : BookAt R w b nv dv B) :
    ∃ ao cap ao2 cap2, nv = .slice ao B.length cap ∧ dv = .slice ao2 B.length cap2 ∧ (∀ k (hk : k < B.length), ∃ g, ao = some ⟨g, 0, none⟩ ∧ g < w.heap.size ∧ w.cell? ⟨g, k, none⟩ = some (.int .i64 B[k].1)) ∧
      (∀ k (hk : k < B.length), ∃ g, ao2 = some ⟨g, 0, none⟩ ∧ g < w.heap.size ∧ w.cell? ⟨g, k, none⟩ = some (.string (bs B[k].2)) ∧ w.frozen? ⟨g, k, none⟩ = false) := by
  obtain ⟨ao, cap, rfl, h1⟩ := row_shape h.keys.1
  obtain ⟨ao2, cap2, rfl, h2⟩ := row_shape h.datas.1
  refine ⟨ao, cap, ao2, cap2, rfl, rfl, fun k hk => ?_, fun k hk => ?_⟩
  · obtain ⟨g, rfl, hg⟩ := h1 (by omega)
    refine ⟨g, rfl, hg, ?_⟩
    rw [h.keys.1.cellAt k (by omega), List.getElem?_map, List.getElem?_eq_getElem hk]
    rfl
  · obtain ⟨g, rfl, hg⟩ := h2 (by omega)
    obtain ⟨cur, hh⟩ := row_type h.datas.1 (g := g) rfl
    refine ⟨g, rfl, hg, ?_, blk_free hh k⟩
    rw [h.datas.1.cellAt k (by omega), List.getElem?_map, List.getElem?_eq_getElem hk]
    rfl
set_option maxRecDepth 100000 in
set_option maxHeartbeats 1000000 in
theorem place_any {R : Nat → Prop} {w : World} {b : Nat} {B : Book} (h : BookR R w b B) (n : Int) (hB : B.length ≤ 100000) :
    Calls Tryz.prog 55 #[ptr b, .int .i64 n] w fun e w' => e = .returned (.int .i64 (placeB B n)) ∧ w = w' := by
  obtain ⟨nv, dv, h⟩ := h
  obtain ⟨ao, cap, ao2, cap2, rfl, rfl, hk1, -⟩ := h.shape
  have HK := hid hk1
  have c0 := blk_cell h.blk 0
  have hlt := lt_of_block h.blk
  obtain ⟨nl, hnl⟩ : ∃ x, B.length = x := ⟨_, rfl⟩
  rw [hnl] at c0 hB
  simp only [List.getElem?_toArray, List.getElem?_cons_zero] at c0
  rcases place_ways B n with ⟨k0, hk0, e1, e2, -, -, e5⟩ | ⟨e1, -, -, e4⟩
  · rw [e1]
    have HE := hid e5
    have hk0' : k0 < nl := by omega
    have HN := hid hnl
    have H2 := hid e2
    clear h hk1 e1 e5 e2 hnl
    go_enter Tryz.func55, Tryz.ntmps55
    go_wp2_with fail
    go_loopw [5] (fun i wr => ∃ k : Nat, k ≤ k0 ∧ i = .int .i64 k ∧ wr = w) (fun i _ => k0 + 1 - (intOf i).toNat)
    case atStart => exact ⟨0, Nat.zero_le _, rfl, rfl⟩
    case round =>
      obtain ⟨k, hk, rfl, rfl⟩ := hrel
      have hlt1 : (k : Int) < nl := by omega
      have i1 : k < B.length := by omega
      obtain ⟨g, rfl, hg, x0⟩ := HK.out k i1
      by_cases hkk : k < k0
      · have hne : (B[k].1 == n) = false := by simpa using HE.out k hkk
        generalize B[k].1 = y at *
        go_wp2
        go_roundw
        case rel => exact ⟨k + 1, by omega, by go_num, trivial⟩
        case measure => simp [intOf]; omega
      · obtain rfl : k = k0 := by omega
        have hne : (B[k].1 == n) = true := by simpa using H2.out
        generalize B[k].1 = y at *
        clear H2
        go_wp2
        go_ret
        exact ⟨rfl, rfl⟩
  · rw [e1]
    have HE := hid e4
    have HN := hid hnl
    clear h hk1 e1 e4 hnl
    go_enter Tryz.func55, Tryz.ntmps55
    go_wp2_with fail
    go_loopw [5] (fun i wr => ∃ k : Nat, k ≤ nl ∧ i = .int .i64 k ∧ wr = w) (fun i _ => nl - (intOf i).toNat)
    case atStart => exact ⟨0, Nat.zero_le _, rfl, rfl⟩
    case round =>
      obtain ⟨k, hk, rfl, rfl⟩ := hrel
      by_cases hkk : k < nl
      · have hlt1 : (k : Int) < nl := by omega
        have i1 : k < B.length := by have := HN.out; omega
        obtain ⟨g, rfl, hg, x0⟩ := HK.out k i1
        have hne : (B[k].1 == n) = false := by simpa using HE.out k i1
        generalize B[k].1 = y at *
        go_wp2
        go_roundw
        case rel => exact ⟨k + 1, by omega, by go_num, trivial⟩
        case measure => simp [intOf]; omega
      · obtain rfl : k = nl := by omega
        have hlt1 : ¬ (k : Int) < k := by omega
        go_wp2
        go_ret
        exact ⟨rfl, rfl⟩
theorem full_none (w : World) : Calls Tryz.prog 27 #[.string ⟨#[]⟩] w fun e w' => e = .returned (.string (bs (zeros 232))) ∧ Below w.heap.size w w' := full_b [] (by decide) w
set_option maxRecDepth 100000 in
set_option maxHeartbeats 1000000 in
theorem bget_any {R : Nat → Prop} {w : World} {b : Nat} {B : Book} (h : BookR R w b B) (n : Int) (hB : B.length ≤ 100000) :
    Calls Tryz.prog 50 #[ptr b, .int .i64 n] w fun e w' => e = .returned (.string (bs (getB B n))) ∧ Below w.heap.size w w' := by
  have HP := hid (place_any h n hB)
  obtain ⟨nv, dv, h⟩ := h
  obtain ⟨ao, cap, ao2, cap2, rfl, rfl, -, hk2⟩ := h.shape
  have c1 := blk_cell h.blk 1
  have hlt := lt_of_block h.blk
  simp only [List.getElem?_toArray, List.getElem?_cons_succ, List.getElem?_cons_zero] at c1
  rcases place_ways B n with ⟨k0, hk0, e1, -, e3, -, -⟩ | ⟨e1, e2, -, -⟩
  · rw [e1] at HP
    rw [e3]
    obtain ⟨g, rfl, hg, x0, -⟩ := hk2 k0 hk0
    have hk0' : (k0 : Int) < (B.length : Int) := by omega
    generalize B[k0].2 = y at *
    obtain ⟨nl, hnl⟩ : ∃ x, B.length = x := ⟨_, rfl⟩
    rw [hnl] at c1 hk0 hk0'
    clear h e1 e3 hk2 hB hnl
    go_enter Tryz.func50, Tryz.ntmps50
    go_wp2_with fail
    refine HP.out.mono ?_
    rintro e w3 ⟨rfl, rfl⟩
    go_wp2
    go_ret
    exact ⟨rfl, Below.refl _ _⟩
  · rw [e1] at HP
    rw [e2]
    clear h e1 e2 hk2 hB c1
    have HF := hid (full_none w)
    go_enter Tryz.func50, Tryz.ntmps50
    go_wp2_with fail
    refine HP.out.mono ?_
    rintro e w3 ⟨rfl, rfl⟩
    go_wp2_with fail
    refine HF.out.mono ?_
    rintro e w4 ⟨rfl, hb⟩
    have HB := hid hb
    clear hb
    go_wp2
    go_ret
    exact ⟨rfl, HB.out⟩
end Sp
end Go.Proofs.YtkoglikaaehhjaaGreatDoor

/-
  Book.Put: a page's bytes are turned, or a page more.
-/
namespace Go.Proofs.YtkoglikaaehhjaaGreatDoor
open Go.RowKit
namespace Sp
open Num (hid)
open Mem (Bs bs tI tS tIs tSs Chg Row ptr blk_cell blk_free blk_new blk_set blk_other blk_alloc row_kept row_shape row_type wpList_append_run)
/-- The struct and its rows, whatever they hold. -/
structure BookH (R : Nat → Prop) (w : World) (b : Nat) (nv dv : Value) (n m : Nat) (ks ds : List Value) : Prop where
  blk : w.heap[b]? = some (.cells #[nv, dv] tBk (0, 0))
  own : R b
  keys : Row R w tI 1 nv n ks
  datas : Row R w tS 1 dv m ds
variable {R : Nat → Prop} {w : World} {b : Nat} {nv dv : Value} {n m : Nat} {ks ds : List Value}
theorem row_ne {t : TypeId} {k : Nat} {v : Value} {xs : List Value} (hv : w.ownsRow 0 t k v n xs) {cs : Array Value} (hb : w.heap[b]? = some (.cells cs tBk (0, 0))) (ht : t ≠ tBk) : ∀ g, v.ownBlock = some g → ¬ g = b := by
  rintro g hg rfl
  obtain ⟨cur, hh⟩ := row_type hv hg
  rw [hb] at hh
  simp only [Option.some.injEq, Obj.cells.injEq] at hh
  exact ht hh.2.1.symm
theorem row_two {t t' : TypeId} {v v' : Value} {n' : Nat} {xs xs' : List Value} (hv : w.ownsRow 0 t 1 v n xs) (hv' : w.ownsRow 0 t' 1 v' n' xs') (ht : t ≠ t') : ∀ g, v.ownBlock = some g → ¬ v'.ownBlock = some g := by
  intro g hg hg'
  obtain ⟨cur, hh⟩ := row_type hv hg
  obtain ⟨cur', hh'⟩ := row_type hv' hg'
  rw [hh] at hh'
  simp only [Option.some.injEq, Obj.cells.injEq] at hh'
  exact ht hh'.2.1
theorem BookH.pushN (h : BookH R w b nv dv n m ks ds) (hR : ∀ k, w.heap.size ≤ k → R k) (x : Int) (hn : n ≤ 200000) :
    ∃ ao cap W1, (Builtin.append_ #[tIs, tIs] tIs #[nv, .slice (some ⟨w.heap.size, 0, none⟩) 1 1]).run Tryz.prog (w.alloc (.cells #[.int .i64 x] tI)) = .ok (.slice ao (n + 1) cap) W1 ∧
      W1.frozen? ⟨b, 0, none⟩ = false ∧ W1.cell? ⟨b, 0, none⟩ = some nv ∧ b < W1.heap.size ∧ BookH R (W1.setCell ⟨b, 0, none⟩ (.slice ao (n + 1) cap)) b (.slice ao (n + 1) cap) dv (n + 1) m (ks ++ [.int .i64 x]) ds ∧ Chg R w (W1.setCell ⟨b, 0, none⟩ (.slice ao (n + 1) cap)) := by
  obtain ⟨v', W1, hr, ho, hc, hw⟩ := Mem.push_int h.keys.1 x (by omega)
  obtain ⟨ao, cap, rfl, -⟩ := row_shape ho
  have hb1 : W1.heap[b]? = some (.cells #[nv, dv] tBk (0, 0)) := hc.at h.blk (fun e => row_ne h.keys.1 h.blk (by decide) _ e rfl)
  have hd1 : Row R W1 tS 1 dv m ds := h.datas.kept hc (fun g hg e => row_two h.datas.1 h.keys.1 (by decide) g hg e)
  have hk1 : Row R W1 tI 1 (.slice ao (n + 1) cap) (n + 1) (ks ++ [.int .i64 x]) := ⟨ho, fun g hg => by
    rcases hw g hg with h1 | h1
    · exact h.keys.2 g h1
    · exact hR g h1⟩
  have hs : Chg (· = b) W1 (W1.setCell ⟨b, 0, none⟩ (.slice ao (n + 1) cap)) := (Chg.refl _ W1).root 0 _
  refine ⟨ao, cap, W1, hr, blk_free hb1 0, blk_cell hb1 0, lt_of_block hb1, ⟨blk_set hb1 0 _, h.own, hk1.kept hs (row_ne hk1.1 hb1 (by decide)), hd1.kept hs (row_ne hd1.1 hb1 (by decide))⟩, ?_⟩
  exact (hc.mono (fun k _ e => h.keys.2 k e)).trans (hs.mono (fun k _ e => by rw [e]; exact h.own))
theorem BookH.pushD (h : BookH R w b nv dv n m ks ds) (hR : ∀ k, w.heap.size ≤ k → R k) (x : ByteArray) (hn : m ≤ 200000) :
    ∃ ao cap W1, (Builtin.append_ #[tSs, tSs] tSs #[dv, .slice (some ⟨w.heap.size, 0, none⟩) 1 1]).run Tryz.prog (w.alloc (.cells #[.string x] tS)) = .ok (.slice ao (m + 1) cap) W1 ∧
      W1.frozen? ⟨b, 1, none⟩ = false ∧ W1.cell? ⟨b, 1, none⟩ = some dv ∧ b < W1.heap.size ∧ BookH R (W1.setCell ⟨b, 1, none⟩ (.slice ao (m + 1) cap)) b nv (.slice ao (m + 1) cap) n (m + 1) ks (ds ++ [.string x]) ∧ Chg R w (W1.setCell ⟨b, 1, none⟩ (.slice ao (m + 1) cap)) := by
  obtain ⟨v', W1, hr, ho, hc, hw⟩ := Mem.push_str h.datas.1 x (by omega)
  obtain ⟨ao, cap, rfl, -⟩ := row_shape ho
  have hb1 : W1.heap[b]? = some (.cells #[nv, dv] tBk (0, 0)) := hc.at h.blk (fun e => row_ne h.datas.1 h.blk (by decide) _ e rfl)
  have hd1 : Row R W1 tI 1 nv n ks := h.keys.kept hc (fun g hg e => row_two h.keys.1 h.datas.1 (by decide) g hg e)
  have hk1 : Row R W1 tS 1 (.slice ao (m + 1) cap) (m + 1) (ds ++ [.string x]) := ⟨ho, fun g hg => by
    rcases hw g hg with h1 | h1
    · exact h.datas.2 g h1
    · exact hR g h1⟩
  have hs : Chg (· = b) W1 (W1.setCell ⟨b, 1, none⟩ (.slice ao (m + 1) cap)) := (Chg.refl _ W1).root 1 _
  refine ⟨ao, cap, W1, hr, blk_free hb1 1, blk_cell hb1 1, lt_of_block hb1, ⟨blk_set hb1 1 _, h.own, hd1.kept hs (row_ne hd1.1 hb1 (by decide)), hk1.kept hs (row_ne hk1.1 hb1 (by decide))⟩, ?_⟩
  exact (hc.mono (fun k _ e => h.datas.2 k e)).trans (hs.mono (fun k _ e => by rw [e]; exact h.own))
theorem BookAt.set {B : Book} {g cap : Nat} (h : BookAt R w b nv (.slice (some ⟨g, 0, none⟩) B.length cap) B) {k : Nat} (hk : k < B.length) (key : Int) (hkey : B[k].1 = key) (d : Bs) :
    BookAt R (w.setCell ⟨g, k, none⟩ (.string (bs d))) b nv (.slice (some ⟨g, 0, none⟩) B.length cap) (B.set k (key, d)) ∧ Chg R w (w.setCell ⟨g, k, none⟩ (.string (bs d))) := by
  have hs : Chg (· = g) w (w.setCell ⟨g, k, none⟩ (.string (bs d))) := (Chg.refl _ w).root k _
  have hrg : R g := h.datas.2 g rfl
  have hne := row_ne h.datas.1 h.blk (by decide) g rfl
  have e1 : keysV (B.set k (key, d)) = keysV B := by
    unfold keysV
    rw [List.map_set]
    apply List.ext_getElem
    · simp
    · intro i h1 h2
      rw [List.getElem_set]
      split
      · rename_i e; subst e; simp [hkey]
      · rfl
  have e2 : datasV (B.set k (key, d)) = (datasV B).set k (.string (bs d)) := by unfold datasV; rw [List.map_set]
  refine ⟨⟨hs.at h.blk (fun e => hne e.symm), h.own, ?_, ?_⟩, hs.mono (fun k _ e => by rw [e]; exact hrg)⟩
  · rw [e1, List.length_set]
    exact h.keys.kept hs (fun g' hg' e => by subst e; exact row_two h.keys.1 h.datas.1 (by decide) g' hg' rfl)
  · rw [e2, List.length_set]
    exact ⟨(h.datas.1.stored k (.string (bs d))).1, h.datas.2⟩
set_option maxRecDepth 100000 in
set_option maxHeartbeats 1000000 in
theorem bput_any {B : Book} (h : BookR R w b B) (hR : ∀ k, w.heap.size ≤ k → R k) (key : Int) (d : Bs) (hB : B.length ≤ 100000) :
    Calls Tryz.prog 38 #[ptr b, .int .i64 key, .string (bs d)] w fun e w' => e = .returned (.tuple #[]) ∧ BookR R w' b (putB B key d) ∧ Chg R w w' := by
  have HP := hid (place_any h key hB)
  obtain ⟨nv, dv, h⟩ := h
  obtain ⟨ao, cap, ao2, cap2, rfl, rfl, -, hk2⟩ := h.shape
  have c0 := blk_cell h.blk 0
  have c1 := blk_cell h.blk 1
  have hlt := lt_of_block h.blk
  simp only [List.getElem?_toArray, List.getElem?_cons_succ, List.getElem?_cons_zero] at c0 c1
  rcases place_ways B key with ⟨k0, hk0, e1, e2, -, e4, -⟩ | ⟨e1, -, e3, -⟩
  · rw [e1] at HP
    rw [e4]
    obtain ⟨g, rfl, hg, x0, f0⟩ := hk2 k0 hk0
    have hS := h.set hk0 key e2 d
    have HS : Hid (BookR R (w.setCell ⟨g, k0, none⟩ (.string (bs d))) b (B.set k0 (key, d)) ∧ Chg R w (w.setCell ⟨g, k0, none⟩ (.string (bs d)))) := hid ⟨⟨_, _, hS.1⟩, hS.2⟩
    have hk0' : (k0 : Int) < (B.length : Int) := by omega
    generalize B[k0].2 = y at *
    obtain ⟨nl, hnl⟩ : ∃ x, B.length = x := ⟨_, rfl⟩
    rw [hnl] at c1 hk0 hk0'
    generalize B.set k0 (key, d) = B' at *
    clear h hS e1 e2 e4 hk2 hB hnl hR c0
    go_enter Tryz.func38, Tryz.ntmps38
    go_wp2_with fail
    refine HP.out.mono ?_
    rintro e w3 ⟨rfl, rfl⟩
    go_wp2
    go_end0
    exact ⟨rfl, HS.out.1, HS.out.2⟩
  · rw [e1] at HP
    rw [e3]
    have hH : BookH R w b (.slice ao B.length cap) (.slice ao2 B.length cap2) B.length B.length (keysV B) (datasV B) := ⟨h.blk, h.own, h.keys, h.datas⟩
    obtain ⟨ao3, cap3, W1, hr1, f1, d1, l1, H1, C1⟩ := hH.pushN hR key (by omega)
    obtain ⟨ao4, cap4, W2, hr2, f2, d2, l2, H2, C2⟩ := H1.pushD (fun k hk => hR k (Nat.le_trans C1.size hk)) (bs d) (by omega)
    have g0 := blk_cell H1.blk 0
    have g1 := blk_cell H1.blk 1
    simp only [List.getElem?_toArray, List.getElem?_cons_succ, List.getElem?_cons_zero] at g0 g1
    have gl := lt_of_block H1.blk
    have HF : Hid (BookR R (W2.setCell ⟨b, 1, none⟩ (.slice ao4 (B.length + 1) cap4)) b (B ++ [(key, d)]) ∧ Chg R w (W2.setCell ⟨b, 1, none⟩ (.slice ao4 (B.length + 1) cap4))) := by
      refine hid ⟨⟨_, _, H2.blk, H2.own, ?_, ?_⟩, C1.trans C2⟩
      · have := H2.keys
        rw [List.length_append]
        unfold keysV at this ⊢
        rw [List.map_append]
        exact this
      · have := H2.datas
        rw [List.length_append]
        unfold datasV at this ⊢
        rw [List.map_append]
        exact this
    have HR1 := hid hr1
    have HR2 := hid hr2
    generalize B ++ [(key, d)] = B' at *
    clear h hH H1 H2 C1 C2 e1 e3 hk2 hB hR hr1 hr2
    generalize B.length = nl at *
    go_enter Tryz.func38, Tryz.ntmps38
    go_wp2_with fail
    refine HP.out.mono ?_
    rintro e w3 ⟨rfl, rfl⟩
    go_wp2_with (at_builtin; first | refine wpList_append_run rfl (.tmp 16) (.tmp 18) tIs tIs rfl _ _ (by simp [Act.eval]) (by simp [Act.eval]) HR1.out ?_ | refine wpList_append_run rfl (.tmp 26) (.tmp 28) tSs tSs rfl _ _ (by simp [Act.eval]) (by simp [Act.eval]) HR2.out ?_)
    refine bodyPost_ret (results_none rfl _ _ _) rfl ?_
    exact ⟨rfl, HF.out.1, HF.out.2⟩
end Sp
end Go.Proofs.YtkoglikaaehhjaaGreatDoor

/-
  The statements' store: a desk over a book, whose calls fail when its count is used up; its Get and Put.
-/
namespace Go.Proofs.YtkoglikaaehhjaaGreatDoor
open Go.RowKit
namespace Sp
open Num (hid)
open Mem (Bs bs tI tS tIs tSs Chg Row ptr blk_cell blk_free blk_new blk_set blk_other blk_alloc row_kept row_shape row_type)
/-- Small enough: k calls and pages at most. -/
def Small (k : Nat) (S : St) : Prop := -(k : Int) ≤ S.left ∧ S.left ≤ 1000000 ∧ S.B.length ≤ k
theorem Small.more {k k' : Nat} {S : St} (h : Small k S) (hk : k ≤ k') : Small k' S := by unfold Small at *; omega
variable {R : Nat → Prop} {w w' : World} {d b : Nat} {S : St}
theorem left_wrap {k : Nat} (h : Small k S) (hk : k ≤ 1000000) : wrap64 (S.left - 1) = S.left - 1 := by
  unfold Small at h
  rw [Num.wrap_i]
  omega
theorem get_no {n : Int} (h : S.left = 0) : S.get n = (([], 11), S) := if_pos h
theorem get_yes {n : Int} (h : ¬ S.left = 0) : S.get n = ((getB S.B n, 0), ⟨S.B, S.left - 1⟩) := if_neg h
theorem put_no {n : Int} {x : Bs} (h : S.left = 0) : S.put n x = (11, S) := if_pos h
theorem put_yes {n : Int} {x : Bs} (h : ¬ S.left = 0) : S.put n x = (0, ⟨putB S.B n x, S.left - 1⟩) := if_neg h
end Sp
end Go.Proofs.YtkoglikaaehhjaaGreatDoor
