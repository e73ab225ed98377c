/-
  Put together: SpareRefEnc, SpareBook, SparePut, SpareInv.
-/
import Derived.Test.YtoifhcmgeackdaaGreatDoorGrpTrSpA
import Derived.BigQuiet
import Derived.Deep.QuietTactic
/-
  Contract of the reference's Encode.
-/
namespace Go.Proofs.YtoifhcmgeackdaaGreatDoor
open Go.RowKit
namespace Sp
open Num (hid fixF)
open Mem (Bs bs IAt)
theorem rfixed_4 (n : Nat) (hn : n < 18446744073709551616) (w : World) : Calls Tryz.prog 118 #[.int .u64 (n : Nat), .int .i64 4] w fun e w' => e = .returned (.string (bs (fixF 4 n))) ∧ Below w.heap.size w w' := (Num.rfixed_any n hn 4 w).mono fun _ _ h => h
theorem rfixed_1 (n : Nat) (hn : n < 18446744073709551616) (w : World) : Calls Tryz.prog 118 #[.int .u64 (n : Nat), .int .i64 1] w fun e w' => e = .returned (.string (bs (fixF 1 n))) ∧ Below w.heap.size w w' := (Num.rfixed_any n hn 1 w).mono fun _ _ h => h
theorem full_short (l : Bs) (h : l.length < 232) : Part.full (bs l) = bs (l ++ zeros (232 - l.length)) := by
  unfold Part.full
  rw [if_neg (by rw [bs_size]; omega), bs_size, ← bs_append]
  rfl
theorem full_b (l : Bs) (h : l.length < 232) (w : World) : Calls Tryz.prog 15 #[.string (bs l)] w fun e w' => e = .returned (.string (bs (l ++ zeros (232 - l.length)))) ∧ Below w.heap.size w w' := by
  rw [← full_short l h]
  exact Part.full_any (bs l) w
/-- The box of the trunk that came, and what was there. -/
structure Bx (w : World) (n : Int) (lv : Value) (wr : World) : Prop where
  tb : Tb w.heap.size n lv wr
  be : Below w.heap.size w wr
theorem Bx.new (w : World) (n : Int) (lv : Value) : Bx w n lv (w.alloc (tObj n lv)) := ⟨Tb.new n lv w, (Below.refl _ _).alloc (Nat.le_refl _) _⟩
theorem Bx.on {w : World} {n : Int} {lv : Value} {wr w' : World} (h : Bx w n lv wr) (hb : Below wr.heap.size wr w') : Bx w n lv w' := ⟨h.tb.on hb, h.be.trans (hb.mono h.be.size)⟩
set_option maxRecDepth 100000 in
set_option maxHeartbeats 4000000 in
theorem rencode_any (t : Tr) (lv : Value) (w : World) (h : IAt w lv t.list) :
    Calls Tryz.prog 80 #[trV t lv] w fun e w' => e = .returned (sV2 (encT t)) ∧ Below w.heap.size w w' := by
  obtain ⟨ao, cap, rfl, hm, -, hat⟩ := Mem.IAt.ways1 h
  have S0 := hid (Bx.new w t.next (.slice ao t.list.length cap))
  obtain ⟨c0, c1⟩ := S0.out.tb.cells
  have HK := hid hat
  unfold sV2
  by_cases hb : t.next < 0 ∨ 4095 < t.next ∨ 50 < t.list.length
  · have ho : okT t = false := by
      cases e : okT t
      · rfl
      · obtain ⟨⟨h1, h2⟩, h3, -⟩ := (okT_iff t).1 e
        omega
    rw [enc_bad ho]
    unfold trV
    obtain ⟨next, l⟩ := t
    simp only at *
    clear h hat ho
    rcases hb with h1 | hb
    · go_enter Tryz.func80, Tryz.ntmps80
      go_wp2
      go_ret2
      exact ⟨rfl, S0.out.be⟩
    · by_cases h1 : next < 0
      · go_enter Tryz.func80, Tryz.ntmps80
        go_wp2
        go_ret2
        exact ⟨rfl, S0.out.be⟩
      · rcases hb with h2 | hb
        · go_enter Tryz.func80, Tryz.ntmps80
          go_wp2
          go_ret2
          exact ⟨rfl, S0.out.be⟩
        · by_cases h2 : 4095 < next
          · go_enter Tryz.func80, Tryz.ntmps80
            go_wp2
            go_ret2
            exact ⟨rfl, S0.out.be⟩
          · have h3 : (50 : Int) < (l.length : Int) := by omega
            go_enter Tryz.func80, Tryz.ntmps80
            go_wp2
            go_ret2
            exact ⟨rfl, S0.out.be⟩
  · have h1 : ¬ t.next < 0 := by omega
    have h2 : ¬ 4095 < t.next := by omega
    have h3 : ¬ (50 : Int) < (t.list.length : Int) := by omega
    have hok : okT t = t.list.all okP := by
      unfold okT
      rw [decide_eq_true (by omega : 0 ≤ t.next), decide_eq_true (by omega : t.next < 4096), decide_eq_true (by omega : t.list.length ≤ 50)]
      rfl
    have HOK := hid hok
    have HL := hid (upto_len t)
    have HNx := hid (fun k (h : k < t.list.length) => upto_next t h)
    have HU0 : Hid (upto t 0 = ([4] ++ fixF 4 t.next.toNat) ++ fixF 1 t.list.length) := hid (by unfold upto headT nums; simp)
    have HU1 : Hid (upto t t.list.length ++ zeros (232 - (6 + t.list.length * 4)) = pageT t) := hid (by rw [upto_all t (Nat.le_refl _)]; unfold pageT; rw [body_len])
    have HP := hid (fun e => (enc_good (t := t) e))
    have HN := hid (fun e => (enc_bad (t := t) e))
    clear h hat hok
    unfold trV at *
    generalize hP : pageT t = P at *
    generalize hE : encT t = E at *
    clear hP hE
    obtain ⟨nl, hnl⟩ : ∃ x, t.list.length = x := ⟨_, rfl⟩
    obtain ⟨m, hm0⟩ : ∃ m : Nat, t.next = (m : Int) := ⟨t.next.toNat, by omega⟩
    rw [hnl] at S0 HL HU0 HU1 h3 c0 c1 ⊢
    rw [hm0] at S0 HU0 h1 h2 c0 c1 ⊢
    rw [show ((m : Int)).toNat = m from rfl] at HU0
    have hu0 : IntKind.u64.wrap (m : Int) = (m : Int) := u64_id (by omega)
    have hu1 : IntKind.u64.wrap (nl : Int) = (nl : Int) := u64_id (by omega)
    have HF4 := hid (rfixed_4 m (by omega))
    have HF1 := hid (rfixed_1 nl (by omega))
    have HNL := hid hnl
    have hlb := S0.out.tb.lt
    have C0 := hid (fun wx (hx : Below (w.alloc (tObj (m : Int) (.slice ao nl cap))).heap.size (w.alloc (tObj (m : Int) (.slice ao nl cap))) wx) => (hx.cell (p := ⟨w.heap.size, 0, none⟩) hlb).trans c0)
    have C1 := hid (fun wx (hx : Below (w.alloc (tObj (m : Int) (.slice ao nl cap))).heap.size (w.alloc (tObj (m : Int) (.slice ao nl cap))) wx) => (hx.cell (p := ⟨w.heap.size, 1, none⟩) hlb).trans c1)
    have t1 : ¬ 9223372036854775807 < (bs [4]).size + (bs (fixF 4 m)).size := by rw [bs_size, bs_size, Num.fixF_length]; decide
    have t2 : ¬ 9223372036854775807 < (bs ([4] ++ fixF 4 m)).size + (bs (fixF 1 nl)).size := by rw [bs_size, bs_size, List.length_append, Num.fixF_length, Num.fixF_length]; decide
    have b4 : (⟨#[4]⟩ : ByteArray) = bs [4] := rfl
    have e2 : (bs [4] ++ bs (fixF 4 m)) ++ bs (fixF 1 nl) = bs (upto t 0) := by rw [HU0.out, bs_append, bs_append]
    rw [← bs_append] at t2
    obtain ⟨X1, e1⟩ : ∃ X, bs [4] ++ bs (fixF 4 m) = X := ⟨_, rfl⟩
    rw [e1] at t2 e2
    clear hnl hm0 hm
    go_enter Tryz.func80, Tryz.ntmps80
    go_wp2_with fail
    generalize w.alloc (tObj (m : Int) (.slice ao nl cap)) = z at *
    refine Part.wp_region_quiet_in (fun wx => Below z.heap.size z wx) (by kernel_rfl) (by kernel_rfl) (Below.refl _ _).drew ?_
    go_big_quiet_want
    go_big_quiet_op
    refine ⟨.pointer (some ⟨w.heap.size, 0, none⟩), fun wx hx => ?_, ?_⟩
    · simp [go_sem]
    go_big_quiet_on
    go_big_quiet_want
    go_big_quiet_op
    refine ⟨.int .i64 (m : Int), fun wx hx => ?_, ?_⟩
    · simp [go_sem, C0.out wx hx]
    go_big_quiet_on
    go_big_quiet_want
    go_big_quiet_op
    refine ⟨.int .u64 (m : Int), fun wx hx => ?_, ?_⟩
    · simp [go_sem]
    go_big_quiet_on
    go_big_quiet_want
    go_big_quiet_op
    refine ⟨.string (bs (fixF 4 m)), fun wx hx => ?_, ?_⟩
    · refine (HF4.out _).mono ?_
      rintro e w9 ⟨rfl, hb9⟩
      exact ⟨rfl, hx.trans (hb9.mono hx.size)⟩
    go_big_quiet_on
    go_big_quiet_want
    go_big_quiet_op
    refine ⟨.string X1, fun wx hx => ?_, ?_⟩
    · simp [go_sem]
    go_big_quiet_on
    go_big_quiet_want
    go_big_quiet_op
    refine ⟨.pointer (some ⟨w.heap.size, 1, none⟩), fun wx hx => ?_, ?_⟩
    · simp [go_sem]
    go_big_quiet_on
    go_big_quiet_want
    go_big_quiet_op
    refine ⟨.slice ao nl cap, fun wx hx => ?_, ?_⟩
    · simp [go_sem, C1.out wx hx]
    go_big_quiet_on
    go_big_quiet_want
    go_big_quiet_op
    refine ⟨.int .i64 (nl : Int), fun wx hx => ?_, ?_⟩
    · simp [go_sem]
    go_big_quiet_on
    go_big_quiet_want
    go_big_quiet_op
    refine ⟨.int .u64 (nl : Int), fun wx hx => ?_, ?_⟩
    · simp [go_sem]
    go_big_quiet_on
    go_big_quiet_want
    go_big_quiet_op
    refine ⟨.string (bs (fixF 1 nl)), fun wx hx => ?_, ?_⟩
    · refine (HF1.out _).mono ?_
      rintro e w9 ⟨rfl, hb9⟩
      exact ⟨rfl, hx.trans (hb9.mono hx.size)⟩
    go_big_quiet_on
    go_big_quiet_want
    go_big_quiet_op
    refine ⟨.string (bs (upto t 0)), fun wx hx => ?_, ?_⟩
    · simp [go_sem]
    go_big_quiet_on
    go_big_quiet_want
    go_big_quiet_op
    go_big_quiet_on
    refine wpQuiet_nil ?_
    intro w5 hb5
    have S1 := hid (S0.out.on hb5)
    clear hb5 C0 C1 c0 c1 t1 t2 b4 e1 e2 hlb h1 h2
    obtain ⟨c0, c1⟩ := S1.out.tb.cells
    go_wp2_with fail
    go_loopw [4, 5] (fun s i wr => ∃ k : Nat, k ≤ nl ∧ i = .int .i64 k ∧ s = .string (bs (upto t k)) ∧ (∀ j (hj : j < t.list.length), j < k → okP t.list[j] = true) ∧ Hid (Bx w (m : Int) (.slice ao nl cap) wr)) (fun _ i _ => nl - (intOf i).toNat)
    case atStart => exact ⟨0, Nat.zero_le _, rfl, rfl, fun j _ hj => absurd hj (Nat.not_lt_zero _), S1⟩
    case round =>
      obtain ⟨k, hk, rfl, rfl, hp, HS⟩ := hrel
      have HQ := hid hp
      have hul := HL.out k hk
      clear c0 c1 hp
      obtain ⟨c0, c1⟩ := HS.out.tb.cells
      by_cases hlt : k < nl
      · have hlt' : (k : Int) < nl := by omega
        have i1 : k < t.list.length := by have := HNL.out; omega
        obtain ⟨b, o, rfl, hbl, x0⟩ := HK.out k i1
        have y0 := (HS.out.be.cell (p := ⟨b, o + k, none⟩) hbl).trans x0
        have HNk := HNx.out k i1
        by_cases hg : okP t.list[k] = true
        · have hg2 := (okP_iff _).1 hg
          have HQ2 : Hid (∀ j (hj : j < t.list.length), j < k + 1 → okP t.list[j] = true) := hid (fun j hj hjk => by
            by_cases e : j < k
            · exact HQ.out j hj e
            · obtain rfl : j = k := by omega
              exact hg)
          obtain ⟨x, hx0⟩ : ∃ x : Nat, t.list[k] = (x : Int) := ⟨t.list[k].toNat, by omega⟩
          rw [hx0] at y0 HNk hg2
          have HN2 : Hid (upto t (k + 1) = upto t k ++ fixF 4 x) := hid HNk
          have hux : IntKind.u64.wrap (x : Int) = (x : Int) := u64_id (by omega)
          have HFx := hid (rfixed_4 x (by omega))
          have g1 : ¬ (x : Int) < 1 := by omega
          have g2 : ¬ 4095 < (x : Int) := by omega
          have t3 : ¬ 9223372036854775807 < (bs (upto t k)).size + (bs (fixF 4 x)).size := by rw [bs_size, bs_size, Num.fixF_length, hul]; omega
          clear x0 HNk hg hx0 i1
          go_wp2_with fail
          refine (HFx.out _).mono ?_
          rintro e w9 ⟨rfl, hb⟩
          have S6 := hid (HS.out.on hb)
          clear hb y0
          go_wp2
          go_roundw
          case rel => exact ⟨k + 1, by omega, by go_num, by rw [HN2.out, ← bs_append], HQ2.out, S6⟩
          case measure => simp [intOf]; omega
        · have hg' : okP t.list[k] = false := by simpa using hg
          have hE : E = ([], 1) := HN.out (by rw [HOK.out]; exact all_split i1 hg')
          subst hE
          have hg2 : t.list[k] < 1 ∨ 4095 < t.list[k] := by
            rcases Int.lt_or_le t.list[k] 1 with h | h
            · exact Or.inl h
            · rcases Int.lt_or_le t.list[k] 4096 with h4 | h4
              · exact absurd ((okP_iff _).2 ⟨h, h4⟩) hg
              · exact Or.inr (by omega)
          generalize t.list[k] = x at *
          clear x0 HNk HN HP
          rcases hg2 with g1 | g1
          · go_wp2
            go_ret2
            exact ⟨rfl, HS.out.be⟩
          · have g2 : ¬ x < 1 := by omega
            go_wp2
            go_ret2
            exact ⟨rfl, HS.out.be⟩
      · obtain rfl : k = nl := by omega
        have hlt' : ¬ (k : Int) < k := by omega
        have hE : E = (P, 0) := HP.out (by rw [HOK.out]; exact all_full (fun j hj => HQ.out j hj (by have := HNL.out; omega)))
        subst hE
        have hF := full_b (upto t k) (by omega)
        rw [hul, HU1.out] at hF
        have HF := hid hF
        clear hF HN HP
        go_wp2_with fail
        refine (HF.out _).mono ?_
        rintro e w9 ⟨rfl, hb⟩
        have S6 := hid (HS.out.on hb)
        clear hb c0 c1
        go_wp2
        go_ret2
        exact ⟨rfl, S6.out.be⟩
end Sp
end Go.Proofs.YtoifhcmgeackdaaGreatDoor

/-
  A book of pages of the call's own: the struct and its two rows; place, Get, Put.
-/
namespace Go.Proofs.YtoifhcmgeackdaaGreatDoor
open Go.RowKit
namespace Sp
open Num (hid)
open Mem (Bs bs tI tS tIs tSs Chg Row ptr blk_cell blk_free blk_new blk_set blk_other blk_alloc row_kept row_shape row_type wpList_append_run)
abbrev tBk : TypeId := 76
abbrev keysV (B : Book) : List Value := B.map fun x => Value.int .i64 x.1
abbrev datasV (B : Book) : List Value := B.map fun x => Value.string (bs x.2)
structure BookAt (R : Nat → Prop) (w : World) (b : Nat) (nv dv : Value) (B : Book) : Prop where
  blk : w.heap[b]? = some (.cells #[nv, dv] tBk (0, 0))
  own : R b
  keys : Row R w tI 1 nv B.length (keysV B)
  datas : Row R w tS 1 dv B.length (datasV B)
def BookR (R : Nat → Prop) (w : World) (b : Nat) (B : Book) : Prop := ∃ nv dv, BookAt R w b nv dv B
theorem BookAt.kept {R F : Nat → Prop} {w w' : World} {b : Nat} {nv dv : Value} {B : Book} (h : BookAt R w b nv dv B) (hc : Chg F w w') (hF : ∀ k, F k → ¬ R k) : BookAt R w' b nv dv B :=
  ⟨hc.at h.blk (fun e => hF b e h.own), h.own, h.keys.kept hc (fun g hg e => hF g e (h.keys.2 g hg)), h.datas.kept hc (fun g hg e => hF g e (h.datas.2 g hg))⟩
theorem BookR.apart {R F : Nat → Prop} {w w' : World} {b : Nat} {B : Book} (h : BookR R w b B) (hc : Chg F w w') (hF : ∀ k, F k → ¬ R k) : BookR R w' b B := by
  obtain ⟨nv, dv, h⟩ := h
  exact ⟨nv, dv, h.kept hc hF⟩
theorem BookR.on {R : Nat → Prop} {w w' : World} {b : Nat} {B : Book} (h : BookR R w b B) (hb : Below w.heap.size w w') : BookR R w' b B := h.apart (F := fun _ => False) (Chg.of_below hb) (fun _ h => h.elim)
theorem BookR.mono {R R' : Nat → Prop} {w : World} {b : Nat} {B : Book} (h : BookR R w b B) (hR : ∀ g, g < w.heap.size → R g → R' g) : BookR R' w b B := by
  obtain ⟨nv, dv, h⟩ := h
  exact ⟨nv, dv, h.blk, hR b (lt_of_block h.blk) h.own, h.keys.mono hR, h.datas.mono hR⟩
theorem BookR.lt {R : Nat → Prop} {w : World} {b : Nat} {B : Book} (h : BookR R w b B) : b < w.heap.size := by
  obtain ⟨nv, dv, h⟩ := h
  exact lt_of_block h.blk
/-- The rows' values, and where their cells are. -/
theorem BookAt.shape {R : Nat → Prop} {w : World} {b : Nat} {nv dv : Value} {B : Book} (h : BookAt R w b nv dv B) :
    ∃ ao cap ao2 cap2, nv = .slice ao B.length cap ∧ dv = .slice ao2 B.length cap2 ∧ (∀ k (hk : k < B.length), ∃ g, ao = some ⟨g, 0, none⟩ ∧ g < w.heap.size ∧ w.cell? ⟨g, k, none⟩ = some (.int .i64 B[k].1)) ∧
      (∀ k (hk : k < B.length), ∃ g, ao2 = some ⟨g, 0, none⟩ ∧ g < w.heap.size ∧ w.cell? ⟨g, k, none⟩ = some (.string (bs B[k].2)) ∧ w.frozen? ⟨g, k, none⟩ = false) := by
  obtain ⟨ao, cap, rfl, h1⟩ := row_shape h.keys.1
  obtain ⟨ao2, cap2, rfl, h2⟩ := row_shape h.datas.1
  refine ⟨ao, cap, ao2, cap2, rfl, rfl, fun k hk => ?_, fun k hk => ?_⟩
  · obtain ⟨g, rfl, hg⟩ := h1 (by omega)
    refine ⟨g, rfl, hg, ?_⟩
    rw [h.keys.1.cellAt k (by omega), List.getElem?_map, List.getElem?_eq_getElem hk]
    rfl
  · obtain ⟨g, rfl, hg⟩ := h2 (by omega)
    obtain ⟨cur, hh⟩ := row_type h.datas.1 (g := g) rfl
    refine ⟨g, rfl, hg, ?_, blk_free hh k⟩
    rw [h.datas.1.cellAt k (by omega), List.getElem?_map, List.getElem?_eq_getElem hk]
    rfl
set_option maxRecDepth 100000 in
set_option maxHeartbeats 1000000 in
theorem place_any {R : Nat → Prop} {w : World} {b : Nat} {B : Book} (h : BookR R w b B) (n : Int) (hB : B.length ≤ 100000) :
    Calls Tryz.prog 81 #[ptr b, .int .i64 n] w fun e w' => e = .returned (.int .i64 (placeB B n)) ∧ w = w' := by
  obtain ⟨nv, dv, h⟩ := h
  obtain ⟨ao, cap, ao2, cap2, rfl, rfl, hk1, -⟩ := h.shape
  have HK := hid hk1
  have c0 := blk_cell h.blk 0
  have hlt := lt_of_block h.blk
  obtain ⟨nl, hnl⟩ : ∃ x, B.length = x := ⟨_, rfl⟩
  rw [hnl] at c0 hB
  simp only [List.getElem?_toArray, List.getElem?_cons_zero] at c0
  rcases place_ways B n with ⟨k0, hk0, e1, e2, -, -, e5⟩ | ⟨e1, -, -, e4⟩
  · rw [e1]
    have HE := hid e5
    have hk0' : k0 < nl := by omega
    have HN := hid hnl
    have H2 := hid e2
    clear h hk1 e1 e5 e2 hnl
    go_enter Tryz.func81, Tryz.ntmps81
    go_wp2_with fail
    go_loopw [5] (fun i wr => ∃ k : Nat, k ≤ k0 ∧ i = .int .i64 k ∧ wr = w) (fun i _ => k0 + 1 - (intOf i).toNat)
    case atStart => exact ⟨0, Nat.zero_le _, rfl, rfl⟩
    case round =>
      obtain ⟨k, hk, rfl, rfl⟩ := hrel
      have hlt1 : (k : Int) < nl := by omega
      have i1 : k < B.length := by omega
      obtain ⟨g, rfl, hg, x0⟩ := HK.out k i1
      by_cases hkk : k < k0
      · have hne : (B[k].1 == n) = false := by simpa using HE.out k hkk
        generalize B[k].1 = y at *
        go_wp2
        go_roundw
        case rel => exact ⟨k + 1, by omega, by go_num, trivial⟩
        case measure => simp [intOf]; omega
      · obtain rfl : k = k0 := by omega
        have hne : (B[k].1 == n) = true := by simpa using H2.out
        generalize B[k].1 = y at *
        clear H2
        go_wp2
        go_ret
        exact ⟨rfl, rfl⟩
  · rw [e1]
    have HE := hid e4
    have HN := hid hnl
    clear h hk1 e1 e4 hnl
    go_enter Tryz.func81, Tryz.ntmps81
    go_wp2_with fail
    go_loopw [5] (fun i wr => ∃ k : Nat, k ≤ nl ∧ i = .int .i64 k ∧ wr = w) (fun i _ => nl - (intOf i).toNat)
    case atStart => exact ⟨0, Nat.zero_le _, rfl, rfl⟩
    case round =>
      obtain ⟨k, hk, rfl, rfl⟩ := hrel
      by_cases hkk : k < nl
      · have hlt1 : (k : Int) < nl := by omega
        have i1 : k < B.length := by have := HN.out; omega
        obtain ⟨g, rfl, hg, x0⟩ := HK.out k i1
        have hne : (B[k].1 == n) = false := by simpa using HE.out k i1
        generalize B[k].1 = y at *
        go_wp2
        go_roundw
        case rel => exact ⟨k + 1, by omega, by go_num, trivial⟩
        case measure => simp [intOf]; omega
      · obtain rfl : k = nl := by omega
        have hlt1 : ¬ (k : Int) < k := by omega
        go_wp2
        go_ret
        exact ⟨rfl, rfl⟩
theorem full_none (w : World) : Calls Tryz.prog 15 #[.string ⟨#[]⟩] w fun e w' => e = .returned (.string (bs (zeros 232))) ∧ Below w.heap.size w w' := full_b [] (by decide) w
set_option maxRecDepth 100000 in
set_option maxHeartbeats 1000000 in
theorem bget_any {R : Nat → Prop} {w : World} {b : Nat} {B : Book} (h : BookR R w b B) (n : Int) (hB : B.length ≤ 100000) :
    Calls Tryz.prog 79 #[ptr b, .int .i64 n] w fun e w' => e = .returned (.string (bs (getB B n))) ∧ Below w.heap.size w w' := by
  have HP := hid (place_any h n hB)
  obtain ⟨nv, dv, h⟩ := h
  obtain ⟨ao, cap, ao2, cap2, rfl, rfl, -, hk2⟩ := h.shape
  have c1 := blk_cell h.blk 1
  have hlt := lt_of_block h.blk
  simp only [List.getElem?_toArray, List.getElem?_cons_succ, List.getElem?_cons_zero] at c1
  rcases place_ways B n with ⟨k0, hk0, e1, -, e3, -, -⟩ | ⟨e1, e2, -, -⟩
  · rw [e1] at HP
    rw [e3]
    obtain ⟨g, rfl, hg, x0, -⟩ := hk2 k0 hk0
    have hk0' : (k0 : Int) < (B.length : Int) := by omega
    generalize B[k0].2 = y at *
    obtain ⟨nl, hnl⟩ : ∃ x, B.length = x := ⟨_, rfl⟩
    rw [hnl] at c1 hk0 hk0'
    clear h e1 e3 hk2 hB hnl
    go_enter Tryz.func79, Tryz.ntmps79
    go_wp2_with fail
    refine HP.out.mono ?_
    rintro e w3 ⟨rfl, rfl⟩
    go_wp2
    go_ret
    exact ⟨rfl, Below.refl _ _⟩
  · rw [e1] at HP
    rw [e2]
    clear h e1 e2 hk2 hB c1
    have HF := hid (full_none w)
    go_enter Tryz.func79, Tryz.ntmps79
    go_wp2_with fail
    refine HP.out.mono ?_
    rintro e w3 ⟨rfl, rfl⟩
    go_wp2_with fail
    refine HF.out.mono ?_
    rintro e w4 ⟨rfl, hb⟩
    have HB := hid hb
    clear hb
    go_wp2
    go_ret
    exact ⟨rfl, HB.out⟩
end Sp
end Go.Proofs.YtoifhcmgeackdaaGreatDoor

/-
  Book.Put: a page's bytes are turned, or a page more.
-/
namespace Go.Proofs.YtoifhcmgeackdaaGreatDoor
open Go.RowKit
namespace Sp
open Num (hid)
open Mem (Bs bs tI tS tIs tSs Chg Row ptr blk_cell blk_free blk_new blk_set blk_other blk_alloc row_kept row_shape row_type wpList_append_run)
/-- The struct and its rows, whatever they hold. -/
structure BookH (R : Nat → Prop) (w : World) (b : Nat) (nv dv : Value) (n m : Nat) (ks ds : List Value) : Prop where
  blk : w.heap[b]? = some (.cells #[nv, dv] tBk (0, 0))
  own : R b
  keys : Row R w tI 1 nv n ks
  datas : Row R w tS 1 dv m ds
variable {R : Nat → Prop} {w : World} {b : Nat} {nv dv : Value} {n m : Nat} {ks ds : List Value}
theorem row_ne {t : TypeId} {k : Nat} {v : Value} {xs : List Value} (hv : w.ownsRow 0 t k v n xs) {cs : Array Value} (hb : w.heap[b]? = some (.cells cs tBk (0, 0))) (ht : t ≠ tBk) : ∀ g, v.ownBlock = some g → ¬ g = b := by
  rintro g hg rfl
  obtain ⟨cur, hh⟩ := row_type hv hg
  rw [hb] at hh
  simp only [Option.some.injEq, Obj.cells.injEq] at hh
  exact ht hh.2.1.symm
theorem row_two {t t' : TypeId} {v v' : Value} {n' : Nat} {xs xs' : List Value} (hv : w.ownsRow 0 t 1 v n xs) (hv' : w.ownsRow 0 t' 1 v' n' xs') (ht : t ≠ t') : ∀ g, v.ownBlock = some g → ¬ v'.ownBlock = some g := by
  intro g hg hg'
  obtain ⟨cur, hh⟩ := row_type hv hg
  obtain ⟨cur', hh'⟩ := row_type hv' hg'
  rw [hh] at hh'
  simp only [Option.some.injEq, Obj.cells.injEq] at hh'
  exact ht hh'.2.1
theorem BookH.pushN (h : BookH R w b nv dv n m ks ds) (hR : ∀ k, w.heap.size ≤ k → R k) (x : Int) (hn : n ≤ 200000) :
    ∃ ao cap W1, (Builtin.append_ #[tIs, tIs] tIs #[nv, .slice (some ⟨w.heap.size, 0, none⟩) 1 1]).run Tryz.prog (w.alloc (.cells #[.int .i64 x] tI)) = .ok (.slice ao (n + 1) cap) W1 ∧
      W1.frozen? ⟨b, 0, none⟩ = false ∧ W1.cell? ⟨b, 0, none⟩ = some nv ∧ b < W1.heap.size ∧ BookH R (W1.setCell ⟨b, 0, none⟩ (.slice ao (n + 1) cap)) b (.slice ao (n + 1) cap) dv (n + 1) m (ks ++ [.int .i64 x]) ds ∧ Chg R w (W1.setCell ⟨b, 0, none⟩ (.slice ao (n + 1) cap)) := by
  obtain ⟨v', W1, hr, ho, hc, hw⟩ := Mem.push_int h.keys.1 x (by omega)
  obtain ⟨ao, cap, rfl, -⟩ := row_shape ho
  have hb1 : W1.heap[b]? = some (.cells #[nv, dv] tBk (0, 0)) := hc.at h.blk (fun e => row_ne h.keys.1 h.blk (by decide) _ e rfl)
  have hd1 : Row R W1 tS 1 dv m ds := h.datas.kept hc (fun g hg e => row_two h.datas.1 h.keys.1 (by decide) g hg e)
  have hk1 : Row R W1 tI 1 (.slice ao (n + 1) cap) (n + 1) (ks ++ [.int .i64 x]) := ⟨ho, fun g hg => by
    rcases hw g hg with h1 | h1
    · exact h.keys.2 g h1
    · exact hR g h1⟩
  have hs : Chg (· = b) W1 (W1.setCell ⟨b, 0, none⟩ (.slice ao (n + 1) cap)) := (Chg.refl _ W1).root 0 _
  refine ⟨ao, cap, W1, hr, blk_free hb1 0, blk_cell hb1 0, lt_of_block hb1, ⟨blk_set hb1 0 _, h.own, hk1.kept hs (row_ne hk1.1 hb1 (by decide)), hd1.kept hs (row_ne hd1.1 hb1 (by decide))⟩, ?_⟩
  exact (hc.mono (fun k _ e => h.keys.2 k e)).trans (hs.mono (fun k _ e => by rw [e]; exact h.own))
theorem BookH.pushD (h : BookH R w b nv dv n m ks ds) (hR : ∀ k, w.heap.size ≤ k → R k) (x : ByteArray) (hn : m ≤ 200000) :
    ∃ ao cap W1, (Builtin.append_ #[tSs, tSs] tSs #[dv, .slice (some ⟨w.heap.size, 0, none⟩) 1 1]).run Tryz.prog (w.alloc (.cells #[.string x] tS)) = .ok (.slice ao (m + 1) cap) W1 ∧
      W1.frozen? ⟨b, 1, none⟩ = false ∧ W1.cell? ⟨b, 1, none⟩ = some dv ∧ b < W1.heap.size ∧ BookH R (W1.setCell ⟨b, 1, none⟩ (.slice ao (m + 1) cap)) b nv (.slice ao (m + 1) cap) n (m + 1) ks (ds ++ [.string x]) ∧ Chg R w (W1.setCell ⟨b, 1, none⟩ (.slice ao (m + 1) cap)) := by
  obtain ⟨v', W1, hr, ho, hc, hw⟩ := Mem.push_str h.datas.1 x (by omega)
  obtain ⟨ao, cap, rfl, -⟩ := row_shape ho
  have hb1 : W1.heap[b]? = some (.cells #[nv, dv] tBk (0, 0)) := hc.at h.blk (fun e => row_ne h.datas.1 h.blk (by decide) _ e rfl)
  have hd1 : Row R W1 tI 1 nv n ks := h.keys.kept hc (fun g hg e => row_two h.keys.1 h.datas.1 (by decide) g hg e)
  have hk1 : Row R W1 tS 1 (.slice ao (m + 1) cap) (m + 1) (ds ++ [.string x]) := ⟨ho, fun g hg => by
    rcases hw g hg with h1 | h1
    · exact h.datas.2 g h1
    · exact hR g h1⟩
  have hs : Chg (· = b) W1 (W1.setCell ⟨b, 1, none⟩ (.slice ao (m + 1) cap)) := (Chg.refl _ W1).root 1 _
  refine ⟨ao, cap, W1, hr, blk_free hb1 1, blk_cell hb1 1, lt_of_block hb1, ⟨blk_set hb1 1 _, h.own, hd1.kept hs (row_ne hd1.1 hb1 (by decide)), hk1.kept hs (row_ne hk1.1 hb1 (by decide))⟩, ?_⟩
  exact (hc.mono (fun k _ e => h.datas.2 k e)).trans (hs.mono (fun k _ e => by rw [e]; exact h.own))
theorem BookAt.set {B : Book} {g cap : Nat} (h : BookAt R w b nv (.slice (some ⟨g, 0, none⟩) B.length cap) B) {k : Nat} (hk : k < B.length) (key : Int) (hkey : B[k].1 = key) (d : Bs) :
    BookAt R (w.setCell ⟨g, k, none⟩ (.string (bs d))) b nv (.slice (some ⟨g, 0, none⟩) B.length cap) (B.set k (key, d)) ∧ Chg R w (w.setCell ⟨g, k, none⟩ (.string (bs d))) := by
  have hs : Chg (· = g) w (w.setCell ⟨g, k, none⟩ (.string (bs d))) := (Chg.refl _ w).root k _
  have hrg : R g := h.datas.2 g rfl
  have hne := row_ne h.datas.1 h.blk (by decide) g rfl
  have e1 : keysV (B.set k (key, d)) = keysV B := by
    unfold keysV
    rw [List.map_set]
    apply List.ext_getElem
    · simp
    · intro i h1 h2
      rw [List.getElem_set]
      split
      · rename_i e; subst e; simp [hkey]
      · rfl
  have e2 : datasV (B.set k (key, d)) = (datasV B).set k (.string (bs d)) := by unfold datasV; rw [List.map_set]
  refine ⟨⟨hs.at h.blk (fun e => hne e.symm), h.own, ?_, ?_⟩, hs.mono (fun k _ e => by rw [e]; exact hrg)⟩
  · rw [e1, List.length_set]
    exact h.keys.kept hs (fun g' hg' e => by subst e; exact row_two h.keys.1 h.datas.1 (by decide) g' hg' rfl)
  · rw [e2, List.length_set]
    exact ⟨(h.datas.1.stored k (.string (bs d))).1, h.datas.2⟩
set_option maxRecDepth 100000 in
set_option maxHeartbeats 1000000 in
theorem bput_any {B : Book} (h : BookR R w b B) (hR : ∀ k, w.heap.size ≤ k → R k) (key : Int) (d : Bs) (hB : B.length ≤ 100000) :
    Calls Tryz.prog 39 #[ptr b, .int .i64 key, .string (bs d)] w fun e w' => e = .returned (.tuple #[]) ∧ BookR R w' b (putB B key d) ∧ Chg R w w' := by
  have HP := hid (place_any h key hB)
  obtain ⟨nv, dv, h⟩ := h
  obtain ⟨ao, cap, ao2, cap2, rfl, rfl, -, hk2⟩ := h.shape
  have c0 := blk_cell h.blk 0
  have c1 := blk_cell h.blk 1
  have hlt := lt_of_block h.blk
  simp only [List.getElem?_toArray, List.getElem?_cons_succ, List.getElem?_cons_zero] at c0 c1
  rcases place_ways B key with ⟨k0, hk0, e1, e2, -, e4, -⟩ | ⟨e1, -, e3, -⟩
  · rw [e1] at HP
    rw [e4]
    obtain ⟨g, rfl, hg, x0, f0⟩ := hk2 k0 hk0
    have hS := h.set hk0 key e2 d
    have HS : Hid (BookR R (w.setCell ⟨g, k0, none⟩ (.string (bs d))) b (B.set k0 (key, d)) ∧ Chg R w (w.setCell ⟨g, k0, none⟩ (.string (bs d)))) := hid ⟨⟨_, _, hS.1⟩, hS.2⟩
    have hk0' : (k0 : Int) < (B.length : Int) := by omega
    generalize B[k0].2 = y at *
    obtain ⟨nl, hnl⟩ : ∃ x, B.length = x := ⟨_, rfl⟩
    rw [hnl] at c1 hk0 hk0'
    generalize B.set k0 (key, d) = B' at *
    clear h hS e1 e2 e4 hk2 hB hnl hR c0
    go_enter Tryz.func39, Tryz.ntmps39
    go_wp2_with fail
    refine HP.out.mono ?_
    rintro e w3 ⟨rfl, rfl⟩
    go_wp2
    go_end0
    exact ⟨rfl, HS.out.1, HS.out.2⟩
  · rw [e1] at HP
    rw [e3]
    have hH : BookH R w b (.slice ao B.length cap) (.slice ao2 B.length cap2) B.length B.length (keysV B) (datasV B) := ⟨h.blk, h.own, h.keys, h.datas⟩
    obtain ⟨ao3, cap3, W1, hr1, f1, d1, l1, H1, C1⟩ := hH.pushN hR key (by omega)
    obtain ⟨ao4, cap4, W2, hr2, f2, d2, l2, H2, C2⟩ := H1.pushD (fun k hk => hR k (Nat.le_trans C1.size hk)) (bs d) (by omega)
    have g0 := blk_cell H1.blk 0
    have g1 := blk_cell H1.blk 1
    simp only [List.getElem?_toArray, List.getElem?_cons_succ, List.getElem?_cons_zero] at g0 g1
    have gl := lt_of_block H1.blk
    have HF : Hid (BookR R (W2.setCell ⟨b, 1, none⟩ (.slice ao4 (B.length + 1) cap4)) b (B ++ [(key, d)]) ∧ Chg R w (W2.setCell ⟨b, 1, none⟩ (.slice ao4 (B.length + 1) cap4))) := by
      refine hid ⟨⟨_, _, H2.blk, H2.own, ?_, ?_⟩, C1.trans C2⟩
      · have := H2.keys
        rw [List.length_append]
        unfold keysV at this ⊢
        rw [List.map_append]
        exact this
      · have := H2.datas
        rw [List.length_append]
        unfold datasV at this ⊢
        rw [List.map_append]
        exact this
    have HR1 := hid hr1
    have HR2 := hid hr2
    generalize B ++ [(key, d)] = B' at *
    clear h hH H1 H2 C1 C2 e1 e3 hk2 hB hR hr1 hr2
    generalize B.length = nl at *
    go_enter Tryz.func39, Tryz.ntmps39
    go_wp2_with fail
    refine HP.out.mono ?_
    rintro e w3 ⟨rfl, rfl⟩
    go_wp2_with (at_builtin; first | refine wpList_append_run rfl (.tmp 16) (.tmp 18) tIs tIs rfl _ _ (by simp [Act.eval]) (by simp [Act.eval]) HR1.out ?_ | refine wpList_append_run rfl (.tmp 26) (.tmp 28) tSs tSs rfl _ _ (by simp [Act.eval]) (by simp [Act.eval]) HR2.out ?_)
    refine bodyPost_ret (results_none rfl _ _ _) rfl ?_
    exact ⟨rfl, HF.out.1, HF.out.2⟩
end Sp
end Go.Proofs.YtoifhcmgeackdaaGreatDoor

/-
  Plain mathematics of layer 9: which pages are free; Take and Give keep it so. No program in sight.
-/
namespace Go.Proofs.YtoifhcmgeackdaaGreatDoor
namespace Sp
open Num (hid)
open Mem (Bs bs)
/-- The pages that a chain of trunks has, the ones that are taken first first. -/
inductive Free (B : Book) : Int → List Int → Prop
  | none : Free B 0 []
  | trunk {t : Int} {T : Tr} {F : List Int} : t ≠ 0 → okT T = true → getB B t = pageT T → Free B T.next F → Free B t (T.list.reverse ++ t :: F)
theorem Free.head {B : Book} {t : Int} {F : List Int} (h : Free B t F) : (t = 0 ∧ F = []) ∨ (t ≠ 0 ∧ t ∈ F ∧ 0 < F.length) := by
  cases h with
  | none => exact Or.inl ⟨rfl, rfl⟩
  | trunk h1 _ _ _ => exact Or.inr ⟨h1, by simp, by simp; omega⟩
theorem Free.put {B : Book} {n : Int} {d : Bs} {t : Int} {F : List Int} (h : Free B t F) (hn : n ∉ F) : Free (putB B n d) t F := by
  induction h with
  | none => exact Free.none
  | trunk h1 h2 h3 _ ih =>
    rename_i t T F _
    have hne : t ≠ n := fun e => hn (by rw [e]; simp)
    exact Free.trunk h1 h2 (by rw [get_other hne]; exact h3) (ih (fun e => hn (by simp [e])))
structure Inv (h : Hd) (B : Book) (U F : List Int) : Prop where
  fr : Free B h.trunk F
  sp : h.spare = F.length
  pg : h.pages = 1 + U.length + F.length
  nd : (U ++ F).Nodup
  rg : ∀ x ∈ U ++ F, 1 ≤ x ∧ x < h.pages
  mode : h.mode = 1 ∨ h.mode = 2
  root : h.root = 0
variable {h : Hd} {B : Book} {U F : List Int} {l : Int}
theorem Inv.fit (k : Inv h B U F) (hp : h.pages ≤ 4096) : Fit h := by
  have h1 := k.sp
  have h2 := k.pg
  have h3 := k.root
  unfold Fit
  refine ⟨k.mode, by omega, hp, ?_, by omega, by omega, ?_⟩
  · rcases k.fr.head with ⟨h4, _⟩ | ⟨_, h4, _⟩
    · omega
    · have := k.rg _ (List.mem_append_right U h4)
      omega
  · rcases k.fr.head with ⟨h4, h5⟩ | ⟨h4, _, h5⟩
    · rw [h5] at h1
      simp at h1
      omega
    · omega
theorem tat_free {t : Int} (hf : Free B t F) (ht : t ≠ 0) (hl : l ≠ 0) : ∃ T F0, okT T = true ∧ F = T.list.reverse ++ t :: F0 ∧ Free B T.next F0 ∧ getB B t = pageT T ∧ trunkAt ⟨B, l⟩ t = ((T, 0), ⟨B, l - 1⟩) := by
  cases hf with
  | none => exact absurd rfl ht
  | trunk h1 h2 h3 h4 =>
    rename_i T F0
    refine ⟨T, F0, h2, rfl, h4, h3, ?_⟩
    have e : St.get ⟨B, l⟩ t = ((pageT T, 0), ⟨B, l - 1⟩) := by unfold St.get; rw [if_neg hl, h3]
    unfold trunkAt
    rw [e]
    simp only [dec_page h2]
    rfl
theorem ptr_free {n : Int} {T : Tr} (ho : okT T = true) (hl : l ≠ 0) : putTrunk ⟨B, l⟩ n T = (0, ⟨putB B n (pageT T), l - 1⟩) := by
  unfold putTrunk St.put
  rw [if_pos ho, if_neg hl]
theorem ptr_stop {n : Int} {T : Tr} (ho : okT T = true) : putTrunk ⟨B, 0⟩ n T = (11, ⟨B, 0⟩) := by
  unfold putTrunk St.put
  rw [if_pos ho, if_pos rfl]
theorem nodup_snoc {x : Int} (h : (U ++ x :: F).Nodup) : ((U ++ [x]) ++ F).Nodup := by
  rw [List.append_assoc]
  exact h
theorem last_split {L : List Int} (h : L.length ≠ 0) : L = L.dropLast ++ [L.getLastD 0] ∧ L.getLastD 0 ∈ L := by
  have hne : L ≠ [] := fun e => h (by rw [e]; rfl)
  have e1 : L.getLastD 0 = L.getLast hne := by
    rw [List.getLastD_eq_getLast?, List.getLast?_eq_some_getLast hne]
    rfl
  rw [e1]
  exact ⟨(List.dropLast_concat_getLast hne).symm, List.getLast_mem hne⟩
theorem not_bad {T : Tr} (h1 : T.next < h.pages) (h2 : ∀ x ∈ T.list, x < h.pages) : ¬ badT h T = true := by
  unfold badT
  intro e
  simp only [Bool.or_eq_true, decide_eq_true_eq, Bool.and_eq_true] at e
  rcases e with e | ⟨e1, e2⟩
  · omega
  · have := h2 _ (last_split (L := T.list) (by omega)).2
    omega
/-- Take, from a head on whose free pages are F. -/
theorem inv_take (k : Inv h B U F) (hp : h.pages ≤ 4096) (hp2 : F.length = 0 → h.pages ≤ 4095) (hl : l < 0 ∨ 2 ≤ l) :
    ∃ n h' B' l' F', takeM h ⟨B, l⟩ = ((n, h', 0), ⟨B', l'⟩) ∧ l - 2 ≤ l' ∧ l' ≤ l ∧ B'.length ≤ B.length + 1 ∧ n ∉ U ∧ 1 ≤ n ∧ n < h'.pages ∧ Inv h' B' (U ++ [n]) F' ∧ h'.mode = h.mode ∧ h'.change = h.change ∧ F'.length = F.length - 1 ∧ h'.spare = (F.length : Int) - 1 + (if F.length = 0 then 1 else 0) ∧ h'.pages = h.pages + (if F.length = 0 then 1 else 0) ∧ (0 < F.length → n ∈ F) := by
  have h1 := k.sp
  have h2 := k.pg
  rcases k.fr.head with ⟨ht, hF⟩ | ⟨ht, hm, hlen⟩
  · subst hF
    have hs : h.spare = 0 := by rw [h1]; rfl
    have hpg := hp2 rfl
    refine ⟨h.pages, { h with pages := h.pages + 1 }, B, l, [], ?_, by omega, by omega, Nat.le_succ _, fun e => ?_, by omega, by show h.pages < h.pages + 1; omega, ?_, rfl, rfl, rfl, ?_, rfl, fun e => absurd e (by simp)⟩
    · unfold takeM takeNew
      rw [if_pos hs, if_neg (by omega)]
    · have := (k.rg _ (List.mem_append_left [] e)).2
      omega
    · refine ⟨k.fr, hs, ?_, ?_, ?_, k.mode, k.root⟩
      · show h.pages + 1 = _
        simp at h2 ⊢
        omega
      · rw [List.append_nil]
        have hnd := k.nd
        rw [List.append_nil] at hnd
        rw [List.nodup_append]
        refine ⟨hnd, by simp, fun a ha b hb => ?_⟩
        have := (k.rg a (List.mem_append_left [] ha)).2
        simp at hb
        omega
      · intro x hx
        rw [List.append_nil] at hx
        show 1 ≤ x ∧ x < h.pages + 1
        rcases List.mem_append.1 hx with hx | hx
        · have := k.rg x (List.mem_append_left [] hx); omega
        · simp at hx; omega
    · rw [hs]; rfl
  · have hs : ¬ h.spare = 0 := by omega
    obtain ⟨T, F0, ho, hF, hf0, hg, hta⟩ := tat_free (l := l) k.fr ht (by omega)
    have hFl : F.length = T.list.length + 1 + F0.length := by rw [hF]; simp; omega
    have hnext : T.next < h.pages := by
      rcases hf0.head with ⟨e, _⟩ | ⟨_, e, _⟩
      · omega
      · exact (k.rg _ (List.mem_append_right U (by rw [hF]; simp [e]))).2
    have hlist : ∀ x ∈ T.list, x < h.pages := fun x hx => (k.rg _ (List.mem_append_right U (by rw [hF]; simp [hx]))).2
    have hbad := not_bad hnext hlist
    by_cases hz : T.list.length = 0
    · have hnil : T.list = [] := List.length_eq_zero_iff.1 hz
      rw [hnil] at hF
      simp at hF
      have hdec : decide (h.spare - 1 = 0) = decide (T.next = 0) := by
        rcases hf0.head with ⟨e, e2⟩ | ⟨e, _, e2⟩
        · rw [decide_eq_true (by rw [e2] at hFl; simp at hFl; omega), decide_eq_true e]
        · rw [decide_eq_false (by omega), decide_eq_false e]
      refine ⟨h.trunk, { h with trunk := T.next, spare := h.spare - 1 }, B, l - 1, F0, ?_, by omega, by omega, Nat.le_succ _, ?_, ?_, ?_, ?_, rfl, rfl, by omega, ?_, ?_, fun _ => hm⟩
      · unfold takeM takeOf
        rw [if_neg hs, hta, if_neg (fun e => e rfl), if_neg (by simpa using hbad), if_pos hz]
        unfold takeTrunk
        simp only
        rw [if_neg (by simpa using hdec)]
      · intro e
        have hnd := k.nd
        rw [List.nodup_append] at hnd
        exact hnd.2.2 _ e _ hm rfl
      · exact (k.rg _ (List.mem_append_right U hm)).1
      · exact (k.rg _ (List.mem_append_right U hm)).2
      · refine ⟨hf0, by show h.spare - 1 = _; omega, ?_, ?_, ?_, k.mode, k.root⟩
        · show h.pages = _
          rw [List.length_append, List.length_singleton]
          omega
        · have hnd := k.nd
          rw [hF] at hnd
          exact nodup_snoc hnd
        · intro x hx
          refine k.rg x ?_
          rw [hF]
          rw [List.append_assoc] at hx
          exact hx
      · rw [if_neg (by omega)]; show h.spare - 1 = _; omega
      · rw [if_neg (by omega)]; show h.pages = _; omega
    · obtain ⟨hsp, hmem⟩ := last_split hz
      have hokL := (okT_iff T).1 ho
      have ho2 : okT ⟨T.next, T.list.dropLast⟩ = true := by
        rw [okT_iff]
        refine ⟨hokL.1, ?_, fun x hx => hokL.2.2 x (List.dropLast_subset _ hx)⟩
        rw [List.length_dropLast]
        have := hokL.2.1
        omega
      have hF2 : F = T.list.getLastD 0 :: (T.list.dropLast.reverse ++ h.trunk :: F0) := by
        rw [hF]
        conv => lhs; rw [hsp]
        simp
      have hput := ptr_free (B := B) (l := l - 1) (n := h.trunk) ho2 (by omega)
      refine ⟨T.list.getLastD 0, { h with spare := h.spare - 1 }, putB B h.trunk (pageT ⟨T.next, T.list.dropLast⟩), l - 1 - 1, T.list.dropLast.reverse ++ h.trunk :: F0, ?_, by omega, by omega, put_len _ _ _, ?_, ?_, ?_, ?_, rfl, rfl, ?_, ?_, ?_, fun _ => ?_⟩
      · unfold takeM takeOf
        rw [if_neg hs, hta, if_neg (fun e => e rfl), if_neg (by simpa using hbad), if_neg hz]
        simp only [hput]
        rfl
      · intro e
        have hnd := k.nd
        rw [List.nodup_append] at hnd
        exact hnd.2.2 _ e _ (by rw [hF2]; simp) rfl
      · exact (k.rg _ (List.mem_append_right U (by rw [hF2]; simp))).1
      · exact (k.rg _ (List.mem_append_right U (by rw [hF2]; simp))).2
      · have hnd := k.nd
        have hndF : (h.trunk :: F0).Nodup := by
          rw [hF, List.nodup_append] at hnd
          have := hnd.2.1
          rw [List.nodup_append] at this
          exact this.2.1
        refine ⟨?_, ?_, ?_, ?_, ?_, k.mode, k.root⟩
        · exact Free.trunk (T := ⟨T.next, T.list.dropLast⟩) ht ho2 (get_same _ _ _) (hf0.put (List.nodup_cons.1 hndF).1)
        · show h.spare - 1 = _
          rw [hF2] at h1
          simp at h1 ⊢
          omega
        · show h.pages = _
          rw [hF2] at h2
          simp at h2 ⊢
          omega
        · rw [hF2] at hnd
          exact nodup_snoc hnd
        · intro x hx
          refine k.rg x ?_
          rw [hF2]
          rw [List.append_assoc] at hx
          exact hx
      · rw [hF2]; simp
      · rw [if_neg (by omega)]; show h.spare - 1 = _; omega
      · rw [if_neg (by omega)]; show h.pages = _; omega
      · rw [hF2]; simp
/-- Give of a page that is used. -/
theorem inv_give (k : Inv h B U F) (hp : h.pages ≤ 4096) (hl : l < 0 ∨ 2 ≤ l) {i : Nat} (hi : i < U.length) :
    ∃ h' B' l', giveM h ⟨B, l⟩ U[i] = ((h', 0), ⟨B', l'⟩) ∧ l - 2 ≤ l' ∧ l' ≤ l ∧ B'.length ≤ B.length + 1 ∧ Inv h' B' (U.take i ++ U.drop (i + 1)) (U[i] :: F) ∧ h'.mode = h.mode ∧ h'.change = h.change ∧ h'.pages = h.pages ∧ h'.spare = h.spare + 1 := by
  have h1 := k.sp
  have h2 := k.pg
  have hU : U = U.take i ++ U[i] :: U.drop (i + 1) := by simp
  have hn := k.rg U[i] (List.mem_append_left F (List.getElem_mem hi))
  have hnF : U[i] ∉ F := by
    intro e
    have hnd := k.nd
    rw [List.nodup_append] at hnd
    exact hnd.2.2 _ (List.getElem_mem hi) _ e rfl
  have hnd2 : ((U.take i ++ U.drop (i + 1)) ++ (U[i] :: F)).Nodup := by
    have hnd := k.nd
    have hperm : (U ++ F).Perm ((U.take i ++ U.drop (i + 1)) ++ (U[i] :: F)) := by
      have e1 : U ++ F = U.take i ++ U[i] :: (U.drop (i + 1) ++ F) := by
        rw [← List.cons_append, ← List.append_assoc, ← hU]
      rw [e1]
      refine List.perm_middle.trans ?_
      rw [← List.append_assoc]
      exact List.perm_middle.symm
    exact hperm.nodup hnd
  have hrg : ∀ x ∈ (U.take i ++ U.drop (i + 1)) ++ (U[i] :: F), 1 ≤ x ∧ x < h.pages := by
    intro x hx
    refine k.rg x ?_
    rcases List.mem_append.1 hx with hx | hx
    · refine List.mem_append_left F ?_
      rcases List.mem_append.1 hx with hx | hx
      · exact List.mem_of_mem_take hx
      · exact List.mem_of_mem_drop hx
    · rcases List.mem_cons.1 hx with rfl | hx
      · exact List.mem_append_left F (List.getElem_mem hi)
      · exact List.mem_append_right U hx
  have hlenU : (U.take i ++ U.drop (i + 1)).length + 1 = U.length := by
    rw [List.length_append, List.length_take, List.length_drop]
    omega
  generalize hx : U[i] = n at *
  have key : ∀ (a : Int) (T : Tr) (l1 : Int), okT T = true → trunkFor h ⟨B, l⟩ n = ((a, T, 0), ⟨B, l1⟩) → l - 1 ≤ l1 → l1 ≤ l → l1 ≠ 0 → Free (putB B a (pageT T)) a (n :: F) →
      ∃ h' B' l', giveM h ⟨B, l⟩ n = ((h', 0), ⟨B', l'⟩) ∧ l - 2 ≤ l' ∧ l' ≤ l ∧ B'.length ≤ B.length + 1 ∧ Inv h' B' (U.take i ++ U.drop (i + 1)) (n :: F) ∧ h'.mode = h.mode ∧ h'.change = h.change ∧ h'.pages = h.pages ∧ h'.spare = h.spare + 1 := by
    intro a T l1 ho htf hl1 hl2 hl3 hfree
    refine ⟨{ h with trunk := a, spare := h.spare + 1 }, putB B a (pageT T), l1 - 1, ?_, by omega, by omega, put_len _ _ _, ?_, rfl, rfl, rfl, rfl⟩
    · unfold giveM giveOf
      rw [if_neg (by omega), if_neg (by omega), htf]
      simp only [ptr_free (B := B) (l := l1) (n := a) ho hl3]
      rfl
    · refine ⟨hfree, ?_, ?_, hnd2, hrg, k.mode, k.root⟩
      · show h.spare + 1 = _
        simp
        omega
      · show h.pages = _
        simp only [List.length_cons]
        omega
  rcases k.fr.head with ⟨ht, hF⟩ | ⟨ht, hm, hlen⟩
  · subst hF
    have ho : okT ⟨h.trunk, []⟩ = true := by rw [ht]; rfl
    refine key n ⟨h.trunk, []⟩ l ho ?_ (by omega) (by omega) (by omega) ?_
    · unfold trunkFor
      rw [if_pos ht, ht]
    · have := Free.trunk (B := putB B n (pageT ⟨h.trunk, []⟩)) (t := n) (T := ⟨h.trunk, []⟩) (F := []) (by omega) ho (get_same _ _ _) (by show Free _ h.trunk []; rw [ht]; exact Free.none)
      exact this
  · obtain ⟨T, F0, ho, hF, hf0, hg, hta⟩ := tat_free (l := l) k.fr ht (by omega)
    have hokL := (okT_iff T).1 ho
    have hndF : (h.trunk :: F0).Nodup := by
      have hnd := k.nd
      rw [hF, List.nodup_append] at hnd
      have := hnd.2.1
      rw [List.nodup_append] at this
      exact this.2.1
    by_cases h5 : T.list.length < 50
    · have ho2 : okT ⟨T.next, T.list ++ [n]⟩ = true := by
        rw [okT_iff]
        refine ⟨hokL.1, by simp; omega, fun x hx => ?_⟩
        rcases List.mem_append.1 hx with hx | hx
        · exact hokL.2.2 x hx
        · simp at hx; omega
      refine key h.trunk ⟨T.next, T.list ++ [n]⟩ (l - 1) ho2 ?_ (by omega) (by omega) (by omega) ?_
      · unfold trunkFor
        rw [if_neg ht, hta, if_neg (fun e => e rfl), if_pos h5]
      · have := Free.trunk (B := putB B h.trunk (pageT ⟨T.next, T.list ++ [n]⟩)) (t := h.trunk) (T := ⟨T.next, T.list ++ [n]⟩) (F := F0) ht ho2 (get_same _ _ _) (hf0.put (List.nodup_cons.1 hndF).1)
        rw [hF]
        simpa using this
    · have htr := k.rg _ (List.mem_append_right U hm)
      have ho2 : okT ⟨h.trunk, []⟩ = true := by
        rw [okT_iff]
        exact ⟨by show 0 ≤ h.trunk ∧ h.trunk < 4096; omega, by simp, fun x hx => by simp at hx⟩
      refine key n ⟨h.trunk, []⟩ (l - 1) ho2 ?_ (by omega) (by omega) (by omega) ?_
      · unfold trunkFor
        rw [if_neg ht, hta, if_neg (fun e => e rfl), if_neg h5]
      · exact Free.trunk (B := putB B n (pageT ⟨h.trunk, []⟩)) (t := n) (T := ⟨h.trunk, []⟩) (F := F) (by omega) ho2 (get_same _ _ _) (k.fr.put hnF)
/-- The store's errors: Give. -/
theorem fail_give (k : Inv h B U F) (hp : h.pages ≤ 4096) (hF0 : 0 < F.length) {i : Nat} (hi : i < U.length) (hl : l = 0 ∨ l = 1) : ∃ S', giveM h ⟨B, l⟩ U[i] = ((hd0, 11), S') := by
  have h1 := k.sp
  have h2 := k.pg
  have hn := k.rg U[i] (List.mem_append_left F (List.getElem_mem hi))
  generalize U[i] = n at *
  rcases k.fr.head with ⟨_, hF⟩ | ⟨ht, hm, hlen⟩
  · rw [hF] at hF0; exact absurd hF0 (by simp)
  · rcases hl with rfl | rfl
    · refine ⟨⟨B, 0⟩, ?_⟩
      have e : trunkFor h ⟨B, 0⟩ n = ((0, noT, 11), ⟨B, 0⟩) := by
        unfold trunkFor
        rw [if_neg ht]
        have : trunkAt ⟨B, 0⟩ h.trunk = ((noT, 11), ⟨B, 0⟩) := rfl
        rw [this]
        rfl
      unfold giveM giveOf
      rw [if_neg (by omega), if_neg (by omega), e]
      rfl
    · obtain ⟨T, F0, ho, hF, hf0, hg, hta⟩ := tat_free (l := 1) k.fr ht (by omega)
      have hokL := (okT_iff T).1 ho
      have htr := k.rg _ (List.mem_append_right U hm)
      have hstop : ∀ (a : Int) (T2 : Tr), okT T2 = true → trunkFor h ⟨B, 1⟩ n = ((a, T2, 0), ⟨B, 0⟩) → ∃ S', giveM h ⟨B, 1⟩ n = ((hd0, 11), S') := by
        intro a T2 ho2 htf
        refine ⟨⟨B, 0⟩, ?_⟩
        unfold giveM giveOf
        rw [if_neg (by omega), if_neg (by omega), htf]
        simp only [ptr_stop (B := B) (n := a) ho2]
        rfl
      by_cases h5 : T.list.length < 50
      · refine hstop h.trunk ⟨T.next, T.list ++ [n]⟩ ?_ ?_
        · rw [okT_iff]
          refine ⟨hokL.1, by simp; omega, fun x hx => ?_⟩
          rcases List.mem_append.1 hx with hx | hx
          · exact hokL.2.2 x hx
          · simp at hx; omega
        · unfold trunkFor
          rw [if_neg ht, hta, if_neg (fun e => e rfl), if_pos h5]
          rfl
      · refine hstop n ⟨h.trunk, []⟩ ?_ ?_
        · rw [okT_iff]
          exact ⟨by show 0 ≤ h.trunk ∧ h.trunk < 4096; omega, by simp, fun x hx => by simp at hx⟩
        · unfold trunkFor
          rw [if_neg ht, hta, if_neg (fun e => e rfl), if_neg h5]
          rfl
/-- The store's errors: Take. -/
theorem fail_take (k : Inv h B U F) (hF0 : 0 < F.length) (hl : l = 0 ∨ l = 1) : ∃ n h' e S', takeM h ⟨B, l⟩ = ((n, h', e), S') ∧ ((n = 0 ∧ h' = hd0 ∧ e = 11) ∨ (e = 0 ∧ h'.spare = h.spare - 1 ∧ l = 1)) := by
  have h1 := k.sp
  have hs : ¬ h.spare = 0 := by omega
  rcases k.fr.head with ⟨_, hF⟩ | ⟨ht, hm, hlen⟩
  · rw [hF] at hF0; exact absurd hF0 (by simp)
  · rcases hl with rfl | rfl
    · refine ⟨0, hd0, 11, ⟨B, 0⟩, ?_, Or.inl ⟨rfl, rfl, rfl⟩⟩
      unfold takeM
      rw [if_neg hs]
      rfl
    · obtain ⟨T, F0, ho, hF, hf0, hg, hta⟩ := tat_free (l := 1) k.fr ht (by omega)
      have hFl : F.length = T.list.length + 1 + F0.length := by rw [hF]; simp; omega
      have hokL := (okT_iff T).1 ho
      have hnext : T.next < h.pages := by
        have h2 := k.pg
        rcases hf0.head with ⟨e, _⟩ | ⟨_, e, _⟩
        · omega
        · exact (k.rg _ (List.mem_append_right U (by rw [hF]; simp [e]))).2
      have hlist : ∀ x ∈ T.list, x < h.pages := fun x hx => (k.rg _ (List.mem_append_right U (by rw [hF]; simp [hx]))).2
      have hbad := not_bad hnext hlist
      by_cases hz : T.list.length = 0
      · have hdec : decide (h.spare - 1 = 0) = decide (T.next = 0) := by
          rcases hf0.head with ⟨e, e2⟩ | ⟨e, _, e2⟩
          · rw [decide_eq_true (by rw [e2] at hFl; simp at hFl; omega), decide_eq_true e]
          · rw [decide_eq_false (by omega), decide_eq_false e]
        refine ⟨h.trunk, { h with trunk := T.next, spare := h.spare - 1 }, 0, ⟨B, 0⟩, ?_, Or.inr ⟨rfl, rfl, rfl⟩⟩
        unfold takeM takeOf
        rw [if_neg hs, hta, if_neg (fun e => e rfl), if_neg (by simpa using hbad), if_pos hz]
        unfold takeTrunk
        simp only
        rw [if_neg (by simpa using hdec)]
        rfl
      · have ho2 : okT ⟨T.next, T.list.dropLast⟩ = true := by
          rw [okT_iff]
          refine ⟨hokL.1, ?_, fun x hx => hokL.2.2 x (List.dropLast_subset _ hx)⟩
          rw [List.length_dropLast]
          have := hokL.2.1
          omega
        refine ⟨0, hd0, 11, ⟨B, 0⟩, ?_, Or.inl ⟨rfl, rfl, rfl⟩⟩
        unfold takeM takeOf
        rw [if_neg hs, hta, if_neg (fun e => e rfl), if_neg (by simpa using hbad), if_neg hz]
        simp only [show (1 : Int) - 1 = 0 from rfl, ptr_stop (B := B) (n := h.trunk) ho2]
        rfl
end Sp
end Go.Proofs.YtoifhcmgeackdaaGreatDoor
