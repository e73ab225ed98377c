/-
  DiskRefused: the walk of the statement.
-/
import Derived.Test.YtfgaoopgnpigjaaDiskOnes
import Derived.Test.YtfgaoopgnpigjaaDiskDoesS
import Derived.Test.YtfgaoopgnpigjaaDiskRefusedM
import Derived.Test.YtfgaoopgnpigjaaDiskFits
import Derived.Test.YtfgaoopgnpigjaaDiskAwake
namespace Go.Proofs.Ytfgaoopgnpigjaa
open Go.RowKit
namespace Disk
open Num (hid bcells)

theorem row_val {w : World} {base : Nat} {e : TypeId} {v : Value} {n : Nat} {xs : List Value} (h : w.ownsRow base e 1 v n xs) :
    ∃ ao cap, v = .slice ao n cap ∧ ∀ k, k < n → ∃ g, ao = some ⟨g, 0, none⟩ ∧ w.cell? ⟨g, k, none⟩ = xs[k]? := by
  have h0 := h
  rcases h.2 with ⟨rfl, hn⟩ | ⟨g, cap, cur, rfl, _⟩
  · subst hn
    exact ⟨none, 0, rfl, fun k hk => absurd hk (Nat.not_lt_zero _)⟩
  · exact ⟨_, cap, rfl, fun k hk => ⟨g, rfl, World.ownsRow.cellAt h0 k (by omega)⟩⟩
theorem row_low {w : World} {base : Nat} {e : TypeId} {v : Value} {n : Nat} {xs : List Value} (h : w.ownsRow base e 1 v n xs) : w.ownsRow 0 e 1 v n xs :=
  ⟨h.1, h.2.imp id (fun ⟨g, cap, cur, hv, _, r⟩ => ⟨g, cap, cur, hv, Nat.zero_le _, r⟩)⟩
theorem row_type {w : World} {base : Nat} {e : TypeId} {v : Value} {n g : Nat} {xs : List Value} (h : w.ownsRow base e 1 v n xs) (hg : v.ownBlock = some g) : ∃ cur, w.heap[g]? = some (.cells cur e (0, 0)) := by
  rcases h.2 with ⟨rfl, _⟩ | ⟨g', cap, cur, rfl, _, hh, _⟩
  · cases hg
  · have : g' = g := by simpa [Value.ownBlock] using hg
    subst this
    exact ⟨cur, hh⟩
theorem Sees.set {O : Nat → Prop} {d m : Nat} {M : Mod} {w : World} (h : Sees O d m M w) {b i : Nat} (hb : O b) (v : Value) : Sees O d m M (w.setCell ⟨b, i, none⟩ v) := by
  obtain ⟨tag, L, D, hL, hN, hs⟩ := h
  exact ⟨tag, L, D.kept (F := fun k => k = b) (Chg.setCell (F := fun k => k = b) (Chg.refl _ w) (Or.inr rfl) v) (fun _ _ => rfl) (fun k hk => by subst hk; exact hN _ hb), hL, hN, fun k hk => by rw [set_size]; exact hs k hk⟩
theorem Sees.few {O : Nat → Prop} {d m : Nat} {M : Mod} {w : World} (h : Sees O d m M w) : M.names.length ≤ 8 := by
  obtain ⟨tag, L, D, hL, _, _⟩ := h
  have := D.few
  unfold Mod.names
  rw [List.length_map, ← hL, dirOf_len]
  exact this
theorem grown_rows {W W' : World} {B : Nat} {e : TypeId} {v : Value} {k : Nat} {xs : List Value} {o : Obj} (h : W.ownsRow B e 1 v k xs) (hB : B ≤ W.heap.size) (hg : (W.alloc o).grownBy W' v.ownBlock) :
    Below B W W' ∧ ∀ (B2 : Nat) (e2 : TypeId) (u : Value) (n : Nat) (ys : List Value), e2 ≠ e → W.ownsRow B2 e2 1 u n ys → W'.ownsRow B2 e2 1 u n ys := by
  refine ⟨((Below.refl B W).alloc hB o).grown hg (by simp; omega) (fun k hk => (h.lt k hk).1), ?_⟩
  intro B2 e2 u n ys hne hu
  refine row_kept hu (F := fun k => v.ownBlock = some k) (((Chg.refl _ W).alloc o).grown hg (fun k hk => Or.inr hk)) ?_
  intro g hgu hgv
  obtain ⟨c1, h1⟩ := row_type hu hgu
  obtain ⟨c2, h2⟩ := row_type h hgv
  rw [h1] at h2
  simp only [Option.some.injEq, Obj.cells.injEq] at h2
  exact hne h2.2.1
theorem step_int {W : World} {B : Nat} {v : Value} {k : Nat} {xs : List Value} (h : W.ownsRow B 3 1 v k xs) (hB : B ≤ W.heap.size) (hk : k ≤ 1000) (x : Int) :
    ∃ v' W', (Builtin.append_ #[46, 46] 46 #[v, .slice (some ⟨W.heap.size, 0, none⟩) 1 1]).run Try.prog (W.alloc (.cells #[.int .i64 x] 3)) = .ok v' W' ∧ W'.ownsRow B 3 1 v' (k + 1) (xs ++ [.int .i64 x]) ∧
      Below B W W' ∧ ∀ (B2 : Nat) (e2 : TypeId) (u : Value) (n : Nat) (ys : List Value), e2 ≠ 3 → W.ownsRow B2 e2 1 u n ys → W'.ownsRow B2 e2 1 u n ys := by
  obtain ⟨v', W', hr, ho, hg⟩ := append_int (h.alloc _) (by simp; omega) (blk_new W (.cells #[.int .i64 x] 3)) (by omega)
  exact ⟨v', W', hr, ho, grown_rows h hB hg⟩
theorem step_str {W : World} {B : Nat} {v : Value} {k : Nat} {xs : List Value} (h : W.ownsRow B tStr 1 v k xs) (hB : B ≤ W.heap.size) (hk : k ≤ 1000) (x : ByteArray) :
    ∃ v' W', (Builtin.append_ #[52, 52] 52 #[v, .slice (some ⟨W.heap.size, 0, none⟩) 1 1]).run Try.prog (W.alloc (.cells #[.string x] tStr)) = .ok v' W' ∧ W'.ownsRow B tStr 1 v' (k + 1) (xs ++ [.string x]) ∧
      Below B W W' ∧ ∀ (B2 : Nat) (e2 : TypeId) (u : Value) (n : Nat) (ys : List Value), e2 ≠ tStr → W.ownsRow B2 e2 1 u n ys → W'.ownsRow B2 e2 1 u n ys := by
  obtain ⟨v', W', hr, ho, hg⟩ := append_str (h.alloc _) (by simp; omega) (blk_new W (.cells #[.string x] tStr)) (by omega)
  exact ⟨v', W', hr, ho, grown_rows h hB hg⟩
theorem ActOk.mono {N N' : Nat} {w : World} {x : ActM} (h : ActOk N w x) (hN : N ≤ N') : ActOk N' w x := ⟨h.name, h.n, h.len, h.ints, h.few, fun b o n cap e hn => Nat.lt_of_lt_of_le (h.old b o n cap e hn) hN⟩
theorem ActsAt.mono {N N' : Nat} {w : World} {v : Value} {l : List ActM} (h : ActsAt N w v l) (hN : N ≤ N') : ActsAt N' w v l := by
  obtain ⟨h1, h2, h3⟩ := h
  refine ⟨?_, fun x hx => (h2 x hx).mono hN, h3⟩
  rcases h1 with h1 | ⟨b, o, cap, hv, hb0, hl⟩
  · exact Or.inl h1
  · exact Or.inr ⟨b, o, cap, hv, by omega, hl⟩
theorem take_map {α β : Type} (l : List α) (f : α → β) (k : Nat) (h : k < l.length) : (l.take (k + 1)).map f = (l.take k).map f ++ [f l[k]] := by
  rw [List.take_succ_eq_append_getElem h, List.map_append]; rfl

/-- What the first loop has laid behind k names. -/
def Laid (w3 : World) (M : Mod) (k : Nat) (v9 v10 : Value) (wr : World) : Prop :=
  Below w3.heap.size w3 wr ∧ wr.ownsRow w3.heap.size 3 1 v9 k ((M.names.take k).map fun n => Value.int .i64 (M.size n)) ∧ wr.ownsRow w3.heap.size tStr 1 v10 k ((M.names.take k).map fun n => Value.string ⟨(M.bytes n).toArray⟩)
theorem laid_start (w3 : World) (M : Mod) : Laid w3 M 0 (.slice (some ⟨w3.heap.size, 0, none⟩) 0 0) (.slice (some ⟨w3.heap.size + 1, 0, none⟩) 0 0) ((w3.alloc (.cells #[] 3)).alloc (.cells #[] tStr)) := by
  refine ⟨((Below.refl _ _).alloc (Nat.le_refl _) _).alloc (by simp) _, ?_, ?_⟩
  · exact (World.ownsRow_made w3 #[] 0 (Nat.le_refl _) (by decide) rfl).alloc _
  · have h := World.ownsRow_made (w3.alloc (.cells #[] 3)) (e := tStr) (size := 1) (base := w3.heap.size) #[] 0 (by simp) (by decide) rfl
    have e : (w3.alloc (.cells #[] 3)).heap.size = w3.heap.size + 1 := by simp
    rw [e] at h
    exact h
/-- The worlds on the way to the store, one behind the other; what the disk leaves alone from then on. -/
structure After (w w1 w2 w3 w5 : World) : Prop where
  lt : w.heap.size < w1.heap.size
  b1 : Below w.heap.size w w1
  b2 : Below w1.heap.size w1 w2
  b3 : Below w2.heap.size w2 w3
  b5 : Below w3.heap.size w3 w5
def Oth (w1 w2 w3 w5 : World) : Nat → Prop := fun k => (k < w1.heap.size ∨ (w2.heap.size ≤ k ∧ k < w3.heap.size)) ∨ (w3.heap.size ≤ k ∧ k < w5.heap.size)
theorem After.below {w w1 w2 w3 w5 : World} (h : After w w1 w2 w3 w5) : Below w.heap.size w w5 :=
  ((h.b1.trans (h.b2.mono h.b1.size)).trans (h.b3.mono (Nat.le_trans h.b1.size h.b2.size))).trans (h.b5.mono (Nat.le_trans (Nat.le_trans h.b1.size h.b2.size) h.b3.size))
theorem After.old {w w1 w2 w3 w5 : World} (h : After w w1 w2 w3 w5) {k : Nat} (hk : k ≤ w.heap.size) : Oth w1 w2 w3 w5 k := Or.inl (Or.inl (Nat.lt_of_le_of_lt hk h.lt))
theorem Stays.below {O : Nat → Prop} {w w' : World} (h : Stays O w w') {B : Nat} (hB : B ≤ w.heap.size) (hO : ∀ k, k < B → O k) : Below B w w' := Chg.below h hB (fun k hk hn => hn (hO k hk))
/-- A row that the disk leaves alone, behind the store to the act and behind calls. -/
theorem row_on {O : Nat → Prop} {w5 w8 : World} {X : Nat} {v0 : Value} (h68 : Stays O (w5.setCell ⟨X, 0, none⟩ v0) w8) {base : Nat} {e : TypeId} {v : Value} {n : Nat} {xs : List Value} (h : w5.ownsRow base e 1 v n xs) (hO : ∀ g, v.ownBlock = some g → g ≠ X ∧ O g) : w8.ownsRow base e 1 v n xs := by
  have h6 : (w5.setCell ⟨X, 0, none⟩ v0).ownsRow base e 1 v n xs := row_kept h (F := fun k => k = X) (Chg.setCell (F := fun k => k = X) (Chg.refl _ w5) (Or.inr rfl) v0) (fun g hg => (hO g hg).1)
  exact row_kept h6 h68 (fun g hg hn => hn (hO g hg).2)
theorem row_cell {w : World} {base : Nat} {e : TypeId} {ao : Option Addr} {n cap : Nat} {xs : List Value} (h : w.ownsRow base e 1 (.slice ao n cap) n xs) {k : Nat} (hk : k < n) : ∃ g, ao = some ⟨g, 0, none⟩ ∧ w.cell? ⟨g, k, none⟩ = xs[k]? := by
  obtain ⟨ao', cap', e1, h2⟩ := row_val h
  obtain ⟨g, hg, hc⟩ := h2 k hk
  cases e1
  exact ⟨g, hg, hc⟩
theorem below_drewN {B : Nat} {a w : World} (h : Below B a w) (n : Nat) : Below B a (w.drewN n) := ⟨h.os, h.tape, h.output, h.size, h.block⟩
theorem Sees.drewN {O : Nat → Prop} {d m : Nat} {M : Mod} {w : World} (h : Sees O d m M w) (n : Nat) : Sees O d m M (w.drewN n) := h.kept (below_drewN (Below.refl _ w) n)
/-- A region that draws its order and whose calls make memory alone: one walk of the text's order, every operation quiet in the class C. -/
theorem wp_region_quiet_in {P : Program} {id : Nat} {Q : Exit → Act → World → Prop} {a : Act} {w : World} {l : List Oper} (C : World → Prop) (hm : P.follows .mixedOrders = true) (hB : Region.lexB .any l.toArray = true) (hC : C w.drew)
    (h : wpQuiet P l.toArray C (fun a' => ∀ w', C w' → Q .normal a' w') l a) : (Code.region id l.toArray true).wp P Q a w :=
  wp_region_quiet (C := C) hm hB hC (by simpa using h)

end Disk
namespace diskRefused
open Disk
open Num (hid)
theorem or3 {a b c p : Prop} (h : a ∨ b ∨ c) (ha : a → p) (hb : b → p) (hc : c → p) : p := h.elim ha (fun h => h.elim hb hc)
theorem armed_is {M : Mod} {kd : Int} (hd : M.c.down = false) (hk : kd = 1 ∨ kd = 2) : (M.arm 1 kd 0).c.down = false ∧ (M.arm 1 kd 0).c.at_ = 1 ∧ (M.arm 1 kd 0).c.kind = kd ∧ (M.arm 1 kd 0).c.ops = M.c.ops ∧ (M.arm 1 kd 0).fs = M.fs := by
  unfold Mod.arm Ctl.armed
  rcases hk with rfl | rfl
  · exact ⟨hd, rfl, rfl, rfl, rfl⟩
  · exact ⟨hd, rfl, rfl, rfl, rfl⟩
theorem u64_nat (a : Int) : ∃ n : Nat, IntKind.u64.wrap a = (n : Int) := ⟨(IntKind.u64.wrap a).toNat, by
  have : IntKind.u64.wrap a = a % 18446744073709551616 := IntKind.wrap_u64 a
  omega⟩

set_option maxRecDepth 100000 in
set_option maxHeartbeats 4000000 in
theorem walk (v0 : Value) (l : List ActM) (xk : Int) (xs : ByteArray) (xn : Int) (xf : UInt8) (xl : Int) (ao : Option Addr) (nn cap : Nat) (fates : List Int) (kind : Int) (w : World)
    (hA : ActsAt w.heap.size w v0 l) (hx : ActOk w.heap.size w ⟨xk, xs, xn, xf, xl, .slice ao nn cap, fates⟩) :
    Calls Try.prog 9 #[v0, .agg #[.int .i64 xk, .string xs, .int .i64 xn, .int .u8 (xf.toNat : Int), .int .i64 xl, .slice ao nn cap], .int .i64 kind] w fun e w' => e = .returned (.bool true) ∧ Below w.heap.size w w' := by
  have HA := hid hA
  have HX := hid hx
  clear hA hx
  go_enter Try.func9, Try.ntmps9
  go_wp2_with fail
  refine (awake_any _).mono ?_
  rintro e w1 ⟨rfl, hb1⟩
  have hX1 : w1.heap[w.heap.size]? = some (.cells #[.int .i64 xk, .string xs, .int .i64 xn, .int .u8 (xf.toNat : Int), .int .i64 xl, .slice ao nn cap] tAct (0, 0)) := (hb1.block _ (by simp)).trans (blk_new w _)
  have B1 : Below w.heap.size w w1 := ((Below.refl _ w).alloc (Nat.le_refl _) _).trans (hb1.mono (by simp))
  have hN1 : w.heap.size < w1.heap.size := lt_of_block hX1
  have A1 : ActsAt w1.heap.size w1 v0 l := (HA.out.kept B1).mono B1.size
  clear hb1
  have HX1 := hid hX1
  have HB1 := hid B1
  have HA1 := hid A1
  have HN1 := hid hN1
  clear hX1 B1 A1 hN1
  go_wp2_with fail
  refine (filled_any w1 v0 l HA1.out).mono ?_
  rintro e w2 ⟨rfl, h2, hb2⟩
  have S2 := hid (Sees.of_has h2)
  have HB2 := hid hb2
  clear h2 hb2
  go_wp2_with fail
  refine (names_sees S2.out).mono ?_
  rintro e w3 ⟨v8, rfl, r8, hb3⟩
  have hN8 := S2.out.few
  have r8' := r8
  obtain ⟨ao8, cap8, rfl, hc8⟩ := row_val r8'
  have HB3 := hid hb3
  have S3 := hid (S2.out.more hb3)
  have R8 := hid r8
  have HC8 := hid hc8
  have hlt8 := hid (fun g (hg : (Value.slice ao8 (filledM l).names.length cap8).ownBlock = some g) => r8.lt g hg)
  have hfit := hid (Fits.filled l)
  clear r8 r8' hb3 hc8
  generalize hMd : filledM l = M at *
  have HM := hid hMd
  clear hMd
  obtain ⟨y, hy⟩ := u64_nat kind
  obtain ⟨z, hz⟩ := u64_nat xk
  have HL0 : Hid (Laid w3 M 0 (.slice (some ⟨w3.heap.size, 0, none⟩) 0 0) (.slice (some ⟨w3.heap.size + 1, 0, none⟩) 0 0) ((w3.alloc (.cells #[] 3)).alloc (.cells #[] tStr))) := hid (laid_start w3 M)
  go_wp2
  go_loopw [9, 10, 11] (fun v9 v10 i wr => ∃ k : Nat, k ≤ M.names.length ∧ i = .int .i64 k ∧ Laid w3 M k v9 v10 wr) (fun _ _ i _ => M.names.length - (intOf i).toNat)
  case atStart => exact ⟨0, Nat.zero_le _, rfl, HL0.out⟩
  case round =>
    obtain ⟨k, hk, rfl, hL⟩ := hrel
    have HL := hid hL
    clear hL
    by_cases hlt : k < M.names.length
    · have hnm : M.names[k] ∈ M.fs.map (·.1) := List.getElem_mem hlt
      have hsmall := name_small hfit.out hnm
      obtain ⟨g8, rfl, hcell8⟩ := HC8.out k hlt
      have hg8 := (hlt8.out g8 rfl).2
      rw [List.getElem?_map, List.getElem?_eq_getElem hlt] at hcell8
      have c1 : wr.cell? ⟨g8, k, none⟩ = some (.string ⟨M.names[k].toArray⟩) := (HL.out.1.cell (p := ⟨g8, k, none⟩) hg8).trans hcell8
      have hnl : (⟨M.names[k].toArray⟩ : ByteArray).size ≤ maxLen := by show M.names[k].toArray.size ≤ maxLen; unfold maxLen; simp; omega
      obtain ⟨v9, W1, hr1, hrow1, hbel1, hoth1⟩ := step_int HL.out.2.1 HL.out.1.size (by omega) (M.size M.names[k])
      have hB1 := HL.out.1.trans hbel1
      have c2 : W1.cell? ⟨g8, k, none⟩ = some (.string ⟨M.names[k].toArray⟩) := (hB1.cell (p := ⟨g8, k, none⟩) hg8).trans hcell8
      have HR1 := hid hrow1
      have HO1 := hid hoth1
      have HB1b := hid hB1
      have HT1 := hid (take_map M.names (fun n => Value.int .i64 (M.size n)) k hlt)
      have HT2 := hid (take_map M.names (fun n => Value.string ⟨(M.bytes n).toArray⟩) k hlt)
      have hsz := size_sees (S3.out.kept HL.out.1) ⟨M.names[k].toArray⟩ hnl
      have hby := bytes_sees (S3.out.kept hB1) ⟨M.names[k].toArray⟩ hnl
      have hSZ := hid hsz
      have hBY := hid hby
      clear hrow1 hoth1 hbel1 hB1 hsz hby hcell8 hnm hsmall
      generalize M.names[k] = nm at *
      go_wp2_with fail
      have hq := hSZ.out
      with_reducible refine hq.mono ?_
      rintro e w' ⟨rfl, rfl⟩
      have HHR := hid hr1
      clear hr1 hq
      go_wp2_with (at_builtin; refine wpList_append_run rfl (.tmp 30) (.tmp 37) 46 46 rfl _ _ (by simp [Act.eval]) (by simp [Act.eval]) HHR.out ?_)
      refine hBY.out.mono ?_
      rintro e w5 ⟨rfl, hb5⟩
      obtain ⟨v10, W2, hr2, hrow2, hbel2, hoth2⟩ := step_str (row_kept (HO1.out _ _ _ _ _ (by decide) HL.out.2.2) (Chg.of_below hb5) (F := fun _ => False) (fun _ _ h => h)) (Nat.le_trans HB1b.out.size hb5.size) (by omega) (⟨(M.bytes nm).toArray⟩ : ByteArray)
      have r9 := hoth2 _ _ _ _ _ (by decide) (row_kept HR1.out (Chg.of_below hb5) (F := fun _ => False) (fun _ _ h => h))
      have hB2 := (HB1b.out.trans (hb5.mono HB1b.out.size)).trans hbel2
      have HHR2 := hid hr2
      have hLn : Laid w3 M (k + 1) v9 v10 W2 := ⟨hB2, by rw [HT1.out]; exact r9, by rw [HT2.out]; exact hrow2⟩
      have HLN := hid hLn
      clear hLn hB2 r9 hoth2 hbel2 hrow2 hb5 c1 c2 hr2
      go_wp2_with (at_builtin; refine wpList_append_run rfl (.tmp 39) (.tmp 46) 52 52 rfl _ _ (by simp [Act.eval]) (by simp [Act.eval]) HHR2.out ?_)
      go_roundw
      case rel => exact ⟨k + 1, by omega, by go_num, HLN.out⟩
      case measure => simp [intOf]; omega
    · obtain rfl : k = M.names.length := by omega
      have hL := HL.out
      rw [Laid, List.take_of_length_le (Nat.le_refl _)] at hL
      obtain ⟨hb5, rw9, rw10⟩ := hL
      have l9 := fun g hg => rw9.lt g hg
      have l10 := fun g hg => rw10.lt g hg
      have rw9' := rw9
      have rw10' := rw10
      obtain ⟨ao9, cap9, rfl, hc9⟩ := row_val rw9'
      obtain ⟨ao10, cap10, rfl, hc10⟩ := row_val rw10'
      clear rw9' rw10' hc9 hc10
      have B15 : Below w1.heap.size w1 wr := (HB2.out.trans (HB3.out.mono HB2.out.size)).trans (hb5.mono (Nat.le_trans HB2.out.size HB3.out.size))
      have hX5 := (B15.block _ HN1.out).trans HX1.out
      have q0 := blk_cell hX5 0
      have z0 := blk_free hX5 0
      have S5 := S3.out.more hb5
      have S6 := S5.set (b := w.heap.size) (i := 0) (Or.inl (Or.inl HN1.out)) (.int .i64 (1 + (z : Int) % 5))
      have hX6 := blk_set hX5 0 (.int .i64 (1 + (z : Int) % 5))
      have P5 : After w w1 w2 w3 wr := ⟨HN1.out, HB1.out, HB2.out, HB3.out, hb5⟩
      have HP5 := hid P5
      have HR9 := hid rw9
      have HR10 := hid rw10
      have HS6 := hid S6
      have HX6 := hid hX6
      have HL9 := hid l9
      have HL10 := hid l10
      clear hX5 S5 S6 hX6 P5 rw9 rw10 B15 hb5 HL l9 l10
      go_wp2_with fail
      refine (ops_sees HS6.out).mono ?_
      rintro e w' ⟨rfl, rfl⟩
      go_wp2_with fail
      have hkd0 : (1 + (y : Int) % 2) = 1 ∨ (1 + (y : Int) % 2) = 2 := by omega
      generalize (1 + (y : Int) % 2) = kd at hkd0 ⊢
      have HKD := hid hkd0
      clear hkd0
      refine (arm_sees HS6.out 1 kd 0 (by decide) (by decide)).mono ?_
      rintro e w7 ⟨rfl, h7, hs7⟩
      have hX7 : w7.heap[w.heap.size]? = some (.cells #[.int .i64 (1 + (z : Int) % 5), .string xs, .int .i64 xn, .int .u8 (xf.toNat : Int), .int .i64 xl, .slice ao nn cap] tAct (0, 0)) := hs7.at HX6.out (HP5.out.old (Nat.le_refl _))
      have q0 := blk_cell hX7 0
      have q1 := blk_cell hX7 1
      have q2 := blk_cell hX7 2
      have q3 := blk_cell hX7 3
      have q4 := blk_cell hX7 4
      have q5 := blk_cell hX7 5
      have B6 : Below w.heap.size w (wr.setCell ⟨w.heap.size, 0, none⟩ (.int .i64 (1 + (z : Int) % 5))) := HP5.out.below.setCell (p := ⟨w.heap.size, 0, none⟩) (Nat.le_refl _) _
      have B7 : Below w.heap.size w w7 := B6.trans (hs7.below B6.size (fun k hk => HP5.out.old (Nat.le_of_lt hk)))
      have hx7 : ActOkS (Oth w1 w2 w3 wr) w7 ⟨1 + (z : Int) % 5, xs, xn, xf, xl, .slice ao nn cap, fates⟩ := ⟨HX.out.name, HX.out.n, HX.out.len, HX.out.ints.onOld B7 HX.out.old, HX.out.few, fun b o n cap e hn => HP5.out.old (Nat.le_of_lt (HX.out.old b o n cap e hn))⟩
      obtain ⟨s, ee, M2, hr⟩ : ∃ s ee M2, (M.arm 1 kd 0).does ⟨1 + (z : Int) % 5, xs, xn, xf, xl, .slice ao nn cap, fates⟩ = (s, ee, M2) := ⟨_, _, _, rfl⟩
      obtain ⟨u1, u2, u3, u4, u5⟩ := armed_is (M := M) (by rw [← HM.out]; exact filled_up l) HKD.out
      have hsaid := does_said u1 u2 u3 HKD.out ⟨1 + (z : Int) % 5, xs, xn, xf, xl, .slice ao nn cap, fates⟩ (by show 1 ≤ 1 + (z : Int) % 5 ∧ 1 + (z : Int) % 5 ≤ 5; omega)
      rw [hr] at hsaid
      have hdo : Calls Try.prog 23 #[ptr (w1.heap.size + 1), .agg #[.int .i64 (1 + (z : Int) % 5), .string xs, .int .i64 xn, .int .u8 (xf.toNat : Int), .int .i64 xl, .slice ao nn cap]] w7 (fun e w' => e = .returned (.tuple #[.string ⟨s.toArray⟩, .int .i64 ee]) ∧ Sees (Oth w1 w2 w3 wr) (w1.heap.size + 1) w1.heap.size M2 w' ∧ Stays (Oth w1 w2 w3 wr) w7 w') := by
        have h := doesS_any h7 _ hx7
        unfold DoesOutS at h
        rw [hr] at h
        exact h
      have HDO := hid hdo
      have HS7 := hid hs7
      have HB7 := hid B7
      have HSAID := hid hsaid
      have HU4 := hid u4
      have HU5 := hid u5
      clear h7 hs7 hX7 B6 B7 hx7 hr u1 u2 u3 u4 u5 hsaid hdo HX6 HS6
      go_wp2_with fail
      refine HDO.out.mono ?_
      rintro e w8 ⟨rfl, h8, hs8⟩
      clear q0 q1 q2 q3 q4 q5
      have h68 := HS7.out.trans hs8
      have r8 := row_on h68 (row_kept R8.out (Chg.of_below HP5.out.b5) (fun _ _ h => h)) (fun g hg => ⟨fun e => (by have h1 := hlt8.out g hg; have h2 := HP5.out.b2.size; have h3 := HP5.out.lt; omega), Or.inl (Or.inr (hlt8.out g hg))⟩)
      have r9 := row_on h68 HR9.out (fun g hg => ⟨fun e => (by have h1 := HL9.out g hg; have h2 := HP5.out.b2.size; have h3 := HP5.out.lt; have h4 := HP5.out.b3.size; omega), Or.inr (HL9.out g hg)⟩)
      have r10 := row_on h68 HR10.out (fun g hg => ⟨fun e => (by have h1 := HL10.out g hg; have h2 := HP5.out.b2.size; have h3 := HP5.out.lt; have h4 := HP5.out.b3.size; omega), Or.inr (HL10.out g hg)⟩)
      have B8 : Below w.heap.size w w8 := HB7.out.trans (hs8.below HB7.out.size (fun k hk => HP5.out.old (Nat.le_of_lt hk)))
      have HB8 := hid B8
      have HS8 := hid h8
      have HR8 := hid r8
      have HR9b := hid r9
      have HR10b := hid r10
      clear h8 hs8 h68 r8 r9 r10 B8 HL9 HL10 HR9 HR10 HDO HS7 HB7
      obtain ⟨hfs, hcase⟩ := HSAID.out
      have HFS := hid (hfs.trans HU5.out)
      clear hfs HSAID
      refine or3 hcase (fun he => ?caseA) (fun hh => ?caseB) (fun hh => ?caseC)
      case' caseA =>
        subst he
        clear hcase
        go_wp2_with fail
      case' caseB =>
        obtain ⟨hk1, he, hops⟩ := hh
        rw [HU4.out] at hops
        clear hcase
        subst he hk1
        have hops2 : M2.c.ops = wrap64 (M.c.ops + 1) := hops
        clear hops
        go_wp2_with fail
        refine (ops_sees HS8.out).mono ?_
        rintro e w' ⟨rfl, rfl⟩
        go_wp2_with fail
        clear hops2
      case' caseC =>
        obtain ⟨hk1, he, hdn⟩ := hh
        clear hcase
        subst he hk1
        go_wp2_with fail
        refine (down_sees HS8.out).mono ?_
        rintro e w' ⟨rfl, rfl⟩
        go_wp2_with fail
        clear hdn
      all_goals
        refine (names_sees HS8.out).mono ?_
        rintro e w9 ⟨v98, rfl, r98, hb9⟩
        have hnm : M2.names = M.names := by unfold Mod.names; rw [HFS.out]
        rw [hnm] at r98
        have r8 := row_kept HR8.out (Chg.of_below hb9) (F := fun _ => False) (fun _ _ h => h)
        have r9 := row_kept HR9b.out (Chg.of_below hb9) (F := fun _ => False) (fun _ _ h => h)
        have r10 := row_kept HR10b.out (Chg.of_below hb9) (F := fun _ => False) (fun _ _ h => h)
        have sa := StrsAt.of_row r98 (by omega)
        have sb := StrsAt.of_row r8 (by omega)
        have S9 := HS8.out.kept hb9
        have B9 := HB8.out.trans (hb9.mono HB8.out.size)
        have H8 := hid r8
        have H9 := hid r9
        have H10 := hid r10
        have HB9 := hid B9
        have HS9 := hid S9
        clear hnm r98 r8 r9 r10 hb9 S9 B9
        have HSA := hid sa
        have HSB := hid sb
        clear sa sb
        go_wp2_with fail
        refine (same_yes _ _ _ M.names HSA.out HSB.out).mono ?_
        rintro e w' ⟨rfl, q, rfl⟩
        clear HSA HSB
        obtain ⟨wS, hwS⟩ : ∃ wS, wS = w9.drewN q := ⟨_, rfl⟩
        have HB : Below w.heap.size w wS := by rw [hwS]; exact below_drewN HB9.out q
        have HS : Sees (Oth w1 w2 w3 wr) (w1.heap.size + 1) w1.heap.size M2 wS := by rw [hwS]; exact HS9.out.drewN q
        have G8 : wS.ownsRow 0 tStr 1 (.slice ao8 M.names.length cap8) M.names.length (M.names.map fun l => Value.string ⟨l.toArray⟩) := by rw [hwS]; exact row_low H8.out
        have G9 : wS.ownsRow 0 3 1 (.slice ao9 M.names.length cap9) M.names.length (M.names.map fun n => Value.int .i64 (M.size n)) := by rw [hwS]; exact row_low H9.out
        have G10 : wS.ownsRow 0 tStr 1 (.slice ao10 M.names.length cap10) M.names.length (M.names.map fun n => Value.string ⟨(M.bytes n).toArray⟩) := by rw [hwS]; exact row_low H10.out
        rw [← hwS]
        clear hwS
        have KB := hid HB
        have KS := hid HS
        have K8 := hid G8
        have K9 := hid G9
        have K10 := hid G10
        clear HB HS G8 G9 G10 H8 H9 H10 HB9 HS9
        go_wp2_with fail
        go_loopw [15] (fun i wq => ∃ k : Nat, k ≤ M.names.length ∧ i = .int .i64 k ∧ Below wS.heap.size wS wq) (fun i _ => M.names.length - (intOf i).toNat)
        case atStart => exact ⟨0, Nat.zero_le _, rfl, Below.refl _ _⟩
        case round =>
          obtain ⟨k, hk, rfl, hbq⟩ := hrel
          have HBQ := hid hbq
          clear hbq
          by_cases hlt : k < M.names.length
          · have hsmall := name_small hfit.out (List.getElem_mem hlt)
            have hnl : (⟨M.names[k].toArray⟩ : ByteArray).size ≤ maxLen := by show M.names[k].toArray.size ≤ maxLen; unfold maxLen; simp; omega
            obtain ⟨g8, e8, c8⟩ := row_cell K8.out hlt
            obtain ⟨g9, e9, c9⟩ := row_cell K9.out hlt
            obtain ⟨g10, e10, c10⟩ := row_cell K10.out hlt
            have b8 := (K8.out.lt g8 (by rw [e8]; rfl)).2
            have b9 := (K9.out.lt g9 (by rw [e9]; rfl)).2
            have b10 := (K10.out.lt g10 (by rw [e10]; rfl)).2
            subst e8 e9 e10
            have s1 : M2.size M.names[k] = M.size M.names[k] := by unfold Mod.size; rw [HFS.out]
            have s2 : M2.bytes M.names[k] = M.bytes M.names[k] := by unfold Mod.bytes; rw [HFS.out]
            have C8 : ∀ wx, Below wS.heap.size wS wx → wx.cell? ⟨g8, k, none⟩ = some (.string ⟨M.names[k].toArray⟩) := fun wx hx => (hx.cell (p := ⟨g8, k, none⟩) b8).trans (by rw [c8, List.getElem?_map, List.getElem?_eq_getElem hlt]; rfl)
            have C9 : ∀ wx, Below wS.heap.size wS wx → wx.cell? ⟨g9, k, none⟩ = some (.int .i64 (M.size M.names[k])) := fun wx hx => (hx.cell (p := ⟨g9, k, none⟩) b9).trans (by rw [c9, List.getElem?_map, List.getElem?_eq_getElem hlt]; rfl)
            have C10 : ∀ wx, Below wS.heap.size wS wx → wx.cell? ⟨g10, k, none⟩ = some (.string ⟨(M.bytes M.names[k]).toArray⟩) := fun wx hx => (hx.cell (p := ⟨g10, k, none⟩) b10).trans (by rw [c10, List.getElem?_map, List.getElem?_eq_getElem hlt]; rfl)
            have Sz : ∀ wx, Below wS.heap.size wS wx → Calls Try.prog 31 #[ptr (w1.heap.size + 1), .string ⟨M.names[k].toArray⟩] wx fun e w' => e = .returned (.int .i64 (M.size M.names[k])) ∧ wx = w' := fun wx hx => by
              have h := size_sees (KS.out.kept hx) ⟨M.names[k].toArray⟩ hnl
              rw [← s1]
              exact h
            have By : ∀ wx, Below wS.heap.size wS wx → Calls Try.prog 33 #[ptr (w1.heap.size + 1), .string ⟨M.names[k].toArray⟩] wx fun e w' => e = .returned (.string ⟨(M.bytes M.names[k]).toArray⟩) ∧ Below wx.heap.size wx w' := fun wx hx => by
              have h := bytes_sees (KS.out.kept hx) ⟨M.names[k].toArray⟩ hnl
              rw [← s2]
              exact h
            generalize M.names[k] = nm at C8 C9 C10 Sz By
            have D8 := hid C8
            have D9 := hid C9
            have D10 := hid C10
            have DS := hid Sz
            have DB := hid By
            clear C8 C9 C10 Sz By s1 s2 c8 c9 c10 b8 b9 b10 hsmall hnl
            go_wp2_with fail
            refine wp_region_quiet_in (fun wx => Below wS.heap.size wS wx) (by kernel_rfl) (by kernel_rfl) HBQ.out.drew ?_
            go_big_quiet_want
            go_big_quiet_op
            go_big_quiet_on
            go_big_quiet_want
            go_big_quiet_op
            go_big_quiet_on
            go_big_quiet_want
            go_big_quiet_op
            go_big_quiet_on
            go_big_quiet_want
            go_big_quiet_op
            apply Exists.intro
            refine ⟨fun _ _ => ?_, ?_⟩
            · with_reducible exact Eq.refl _
            go_big_quiet_on
            go_big_quiet_want
            go_big_quiet_op
            refine ⟨.string ⟨nm.toArray⟩, fun wx hx => ?_, ?_⟩
            · have c := D8.out wx hx
              simp [go_sem, c]
            go_big_quiet_on
            go_big_quiet_want
            go_big_quiet_op
            refine ⟨.int .i64 (M.size nm), fun wx hx => ?_, ?_⟩
            · refine (DS.out wx hx).mono ?_
              rintro e w3 ⟨rfl, rfl⟩
              exact ⟨rfl, hx⟩
            go_big_quiet_on
            go_big_quiet_want
            go_big_quiet_op
            go_big_quiet_on
            go_big_quiet_want
            go_big_quiet_op
            go_big_quiet_on
            go_big_quiet_want
            go_big_quiet_op
            apply Exists.intro
            refine ⟨fun _ _ => ?_, ?_⟩
            · with_reducible exact Eq.refl _
            go_big_quiet_on
            go_big_quiet_want
            go_big_quiet_op
            refine ⟨.int .i64 (M.size nm), fun wx hx => ?_, ?_⟩
            · have c := D9.out wx hx
              simp [go_sem, c]
            go_big_quiet_on
            go_big_quiet_want
            go_big_quiet_op
            apply Exists.intro
            refine ⟨fun _ _ => ?_, ?_⟩
            · with_reducible exact Eq.refl _
            go_big_quiet_on
            go_big_quiet_want
            go_big_quiet_op
            go_big_quiet_on
            go_big_quiet_want
            go_big_quiet_op
            go_big_quiet_on
            go_big_quiet_want
            go_big_quiet_op
            go_big_quiet_on
            go_big_quiet_want
            go_big_quiet_op
            go_big_quiet_on
            go_big_quiet_want
            go_big_quiet_op
            apply Exists.intro
            refine ⟨fun _ _ => ?_, ?_⟩
            · with_reducible exact Eq.refl _
            go_big_quiet_on
            go_big_quiet_want
            go_big_quiet_op
            refine ⟨.string ⟨nm.toArray⟩, fun wx hx => ?_, ?_⟩
            · have c := D8.out wx hx
              simp [go_sem, c]
            go_big_quiet_on
            go_big_quiet_want
            go_big_quiet_op
            refine ⟨.string ⟨(M.bytes nm).toArray⟩, fun wx hx => ?_, ?_⟩
            · refine (DB.out wx hx).mono ?_
              rintro e w3 ⟨rfl, hb3⟩
              exact ⟨rfl, hx.trans (hb3.mono hx.size)⟩
            go_big_quiet_on
            go_big_quiet_want
            go_big_quiet_op
            go_big_quiet_on
            go_big_quiet_want
            go_big_quiet_op
            go_big_quiet_on
            go_big_quiet_want
            go_big_quiet_op
            apply Exists.intro
            refine ⟨fun _ _ => ?_, ?_⟩
            · with_reducible exact Eq.refl _
            go_big_quiet_on
            go_big_quiet_want
            go_big_quiet_op
            refine ⟨.string ⟨(M.bytes nm).toArray⟩, fun wx hx => ?_, ?_⟩
            · have c := D10.out wx hx
              simp [go_sem, c]
            go_big_quiet_on
            go_big_quiet_want
            go_big_quiet_op
            apply Exists.intro
            refine ⟨fun _ _ => ?_, ?_⟩
            · with_reducible exact Eq.refl _
            go_big_quiet_on
            go_big_quiet_want
            go_big_quiet_op
            apply Exists.intro
            refine ⟨fun _ _ => ?_, ?_⟩
            · with_reducible exact Eq.refl _
            go_big_quiet_on
            refine wpQuiet_nil ?_
            intro wq2 hq2
            go_wp2
            go_roundw
            case rel => exact ⟨k + 1, by omega, by go_num, hq2⟩
            case measure => simp [intOf]; omega
          · obtain rfl : k = M.names.length := by omega
            go_wp2
            go_ret
            exact ⟨rfl, KB.out.trans (HBQ.out.mono KB.out.size)⟩

end diskRefused
end Go.Proofs.Ytfgaoopgnpigjaa
