/-
  The walk of MixTells: it answers true; the old memory stays.
-/
import Derived.Test.YtijppgjjbbkjoaaMixSu
import Derived.Deep.QuietTactic
import Derived.BigQuiet
import Derived.Stop.BytesEq
namespace Go.Proofs.Ytijppgjjbbkjoaa.mixTells
open Go.RowKit Go.Proofs.Ytijppgjjbbkjoaa.Mix
open Num (hid)

/-- A byte's value. -/
def bv (b : UInt8) : Value := .int .u8 (b.toNat : Int)
/-- The three arrays, a block each from b on. -/
structure Held (b : Nat) (f0 f1 : Int) (s0 s1 : ByteArray) (g0 g1 g2 g3 h0 h1 h2 h3 : UInt8) (wx : World) : Prop where
  hf : wx.heap[b]? = some (.cells #[.int .u64 f0, .int .u64 f1] 27 (0, 0))
  hs : wx.heap[b + 1]? = some (.cells #[.string s0, .string s1] 28 (0, 0))
  hg : wx.heap[b + 1 + 1]? = some (.cells #[.int .u8 (g0.toNat : Int), .int .u8 (g1.toNat : Int), .int .u8 (g2.toNat : Int), .int .u8 (g3.toNat : Int), .int .u8 (h0.toNat : Int), .int .u8 (h1.toNat : Int), .int .u8 (h2.toNat : Int), .int .u8 (h3.toNat : Int)] 30 (0, 0))

theorem Held.on {b : Nat} {f0 f1 : Int} {s0 s1 : ByteArray} {g0 g1 g2 g3 h0 h1 h2 h3 : UInt8} {w1 w2 : World} (h : Held b f0 f1 s0 s1 g0 g1 g2 g3 h0 h1 h2 h3 w1) (hb : Below w1.heap.size w1 w2) : Held b f0 f1 s0 s1 g0 g1 g2 g3 h0 h1 h2 h3 w2 :=
  ⟨(hb.block _ (lt_of_block h.hf)).trans h.hf, (hb.block _ (lt_of_block h.hs)).trans h.hs, (hb.block _ (lt_of_block h.hg)).trans h.hg⟩

theorem cell_at {w : World} {b : Nat} {cs : Array Value} {t : TypeId} {f : Nat × Nat} (h : w.heap[b]? = some (.cells cs t f)) (j : Nat) : w.cell? ⟨b, j, none⟩ = cs[j]? := by simp [World.cell?, h]

theorem held_new (f0 f1 : Int) (s0 s1 : ByteArray) (g0 g1 g2 g3 h0 h1 h2 h3 : UInt8) (w : World) :
    Held w.heap.size f0 f1 s0 s1 g0 g1 g2 g3 h0 h1 h2 h3 (((w.alloc (.cells #[.int .u64 f0, .int .u64 f1] 27)).alloc (.cells #[.string s0, .string s1] 28)).alloc (.cells #[.int .u8 (g0.toNat : Int), .int .u8 (g1.toNat : Int), .int .u8 (g2.toNat : Int), .int .u8 (g3.toNat : Int), .int .u8 (h0.toNat : Int), .int .u8 (h1.toNat : Int), .int .u8 (h2.toNat : Int), .int .u8 (h3.toNat : Int)] 30)) ∧
    Below w.heap.size w (((w.alloc (.cells #[.int .u64 f0, .int .u64 f1] 27)).alloc (.cells #[.string s0, .string s1] 28)).alloc (.cells #[.int .u8 (g0.toNat : Int), .int .u8 (g1.toNat : Int), .int .u8 (g2.toNat : Int), .int .u8 (g3.toNat : Int), .int .u8 (h0.toNat : Int), .int .u8 (h1.toNat : Int), .int .u8 (h2.toNat : Int), .int .u8 (h3.toNat : Int)] 30)) := by
  refine ⟨⟨?_, ?_, ?_⟩, (((Below.refl _ _).alloc (Nat.le_refl _) _).alloc (by simp) _).alloc (by simp; omega) _⟩
  · rw [Below.heap_alloc _ _ _ (by simp; omega), Below.heap_alloc _ _ _ (by simp)]; exact heap_alloc_new _ _
  · rw [Below.heap_alloc _ _ _ (by simp)]
    simpa using heap_alloc_new (w.alloc (.cells #[.int .u64 f0, .int .u64 f1] 27)) (.cells #[.string s0, .string s1] 28)
  · simpa using heap_alloc_new ((w.alloc (.cells #[.int .u64 f0, .int .u64 f1] 27)).alloc (.cells #[.string s0, .string s1] 28)) (.cells #[.int .u8 (g0.toNat : Int), .int .u8 (g1.toNat : Int), .int .u8 (g2.toNat : Int), .int .u8 (g3.toNat : Int), .int .u8 (h0.toNat : Int), .int .u8 (h1.toNat : Int), .int .u8 (h2.toNat : Int), .int .u8 (h3.toNat : Int)] 30)

/-- The worlds that the regions meet. -/
structure Cls (w : World) (n m : Nat) (s0 s1 : ByteArray) (g0 g1 g2 g3 h0 h1 h2 h3 : UInt8) (wx : World) : Prop where
  held : Held w.heap.size n m s0 s1 g0 g1 g2 g3 h0 h1 h2 h3 wx
  below : Below w.heap.size w wx
theorem Cls.on {w : World} {n m : Nat} {s0 s1 : ByteArray} {g0 g1 g2 g3 h0 h1 h2 h3 : UInt8} {wx wy : World} (h : Cls w n m s0 s1 g0 g1 g2 g3 h0 h1 h2 h3 wx) (hb : Below wx.heap.size wx wy) : Cls w n m s0 s1 g0 g1 g2 g3 h0 h1 h2 h3 wy :=
  ⟨h.held.on hb, h.below.trans (hb.mono h.below.size)⟩
theorem Cls.drew {w : World} {n m : Nat} {s0 s1 : ByteArray} {g0 g1 g2 g3 h0 h1 h2 h3 : UInt8} {wx : World} (h : Cls w n m s0 s1 g0 g1 g2 g3 h0 h1 h2 h3 wx) : Cls w n m s0 s1 g0 g1 g2 g3 h0 h1 h2 h3 wx.drew :=
  ⟨⟨h.held.hf, h.held.hs, h.held.hg⟩, h.below.drew⟩

theorem conv_g {w : World} {n m : Nat} {s0 s1 : ByteArray} {g0 g1 g2 g3 h0 h1 h2 h3 : UInt8} {wx : World} (h : Cls w n m s0 s1 g0 g1 g2 g3 h0 h1 h2 h3 wx) :
    (convert 31 9 (.slice (some ⟨w.heap.size + 1 + 1, 0, none⟩) 4 4)).run Try.prog wx = .ok (.string ⟨#[g0, g1, g2, g3]⟩) wx :=
  run_convert_bytes_back (P := Try.prog) wx 31 9 5 ⟨w.heap.size + 1 + 1, 0, none⟩ 4 [g0, g1, g2, g3] Try.underlying31 Try.underlying5 Try.underlying9 (fun j hj => by
    rw [Addr.add_lit, cell_at h.held.hg]
    match j, hj with
    | 0, _ => rfl
    | 1, _ => rfl
    | 2, _ => rfl
    | 3, _ => rfl)
theorem conv_h {w : World} {n m : Nat} {s0 s1 : ByteArray} {g0 g1 g2 g3 h0 h1 h2 h3 : UInt8} {wx : World} (h : Cls w n m s0 s1 g0 g1 g2 g3 h0 h1 h2 h3 wx) :
    (convert 31 9 (.slice (some ⟨w.heap.size + 1 + 1, 4, none⟩) 4 4)).run Try.prog wx = .ok (.string ⟨#[h0, h1, h2, h3]⟩) wx :=
  run_convert_bytes_back (P := Try.prog) wx 31 9 5 ⟨w.heap.size + 1 + 1, 4, none⟩ 4 [h0, h1, h2, h3] Try.underlying31 Try.underlying5 Try.underlying9 (fun j hj => by
    rw [Addr.add_lit, cell_at h.held.hg]
    match j, hj with
    | 0, _ => rfl
    | 1, _ => rfl
    | 2, _ => rfl
    | 3, _ => rfl)

theorem eql_g (g0 g1 g2 g3 h0 h1 h2 h3 : UInt8) (q : Bool) (hq : ([g0, g1, g2, g3] == [h0, h1, h2, h3]) = q) (w : World) :
    (Op.equalIn 10000 29 (.agg #[.int .u8 (g0.toNat : Int), .int .u8 (g1.toNat : Int), .int .u8 (g2.toNat : Int), .int .u8 (g3.toNat : Int)]) (.agg #[.int .u8 (h0.toNat : Int), .int .u8 (h1.toNat : Int), .int .u8 (h2.toNat : Int), .int .u8 (h3.toNat : Int)])).run Try.prog w = .ok q w := by
  subst hq
  exact run_equalIn_bytes (P := Try.prog) w 9998 29 5 4 Try.underlying29 Try.underlying5 (fun _ => by kernel_rfl) [g0, g1, g2, g3] [h0, h1, h2, h3] rfl rfl

/-- The text of a call: the whole groups ahead, the group, what stands behind. -/
def txt (s0 s1 : ByteArray) (a b c d : UInt8) : ByteArray := s0.extract 0 (s0.size - s0.size % 4) ++ ⟨#[a, b, c, d]⟩ ++ s1
theorem txt_size (s0 s1 : ByteArray) (a b c d : UInt8) : (txt s0 s1 a b c d).size ≤ s0.size + 4 + s1.size := by
  unfold txt
  rw [ByteArray.size_append, ByteArray.size_append]
  have : (⟨#[a, b, c, d]⟩ : ByteArray).size = 4 := rfl
  rw [this, ByteArray.size_extract]
  omega
theorem su_txt (n : Nat) (hn : n < 18446744073709551616) (s0 s1 : ByteArray) (a b c d : UInt8) : su n (txt s0 s1 a b c d) = su (su (su n (s0.extract 0 (s0.size - s0.size % 4))) ⟨#[a, b, c, d]⟩) s1 := by
  unfold txt
  have k1 : (s0.extract 0 (s0.size - s0.size % 4)).size % 4 = 0 := by rw [ByteArray.size_extract]; omega
  have k2 : (s0.extract 0 (s0.size - s0.size % 4) ++ ⟨#[a, b, c, d]⟩).size % 4 = 0 := by
    rw [ByteArray.size_append]
    have : (⟨#[a, b, c, d]⟩ : ByteArray).size = 4 := rfl
    omega
  rw [su_goes n _ s1 hn k2, su_goes n _ ⟨#[a, b, c, d]⟩ hn k1]
theorem su_inj {n m : Nat} (s : ByteArray) (hn : n < 18446744073709551616) (hm : m < 18446744073709551616) (h : su n s = su m s) : n = m := sumN_inj _ hn hm h
/-- P2.3: another group tells. -/
theorem tells_g {n : Nat} (hn : n < 18446744073709551616) (s0 s1 : ByteArray) (g0 g1 g2 g3 h0 h1 h2 h3 : UInt8) : su n (txt s0 s1 g0 g1 g2 g3) = su n (txt s0 s1 h0 h1 h2 h3) ↔ ([g0, g1, g2, g3] == [h0, h1, h2, h3]) = true := by
  constructor
  · intro h
    rw [su_txt n hn, su_txt n hn] at h
    have k0 := su_lt n (s0.extract 0 (s0.size - s0.size % 4)) hn
    have k := su_inj s1 (su_lt _ _ k0) (su_lt _ _ k0) h
    have e : [g0, g1, g2, g3] = [h0, h1, h2, h3] := sumN_inj4 k0 rfl rfl k
    rw [e]
    exact beq_self_eq_true _
  · intro h
    have e := eq_of_beq h
    simp only [List.cons.injEq, and_true] at e
    obtain ⟨rfl, rfl, rfl, rfl⟩ := e
    rfl
/-- P2.3: another beginning tells. -/
theorem tells_f {n m : Nat} (hn : n < 18446744073709551616) (hm : m < 18446744073709551616) (s0 s1 : ByteArray) (a b c d : UInt8) : su n (txt s0 s1 a b c d) = su m (txt s0 s1 a b c d) ↔ n = m :=
  ⟨fun h => su_inj _ hn hm h, fun h => by rw [h]⟩
theorem beq_n (x y : Nat) : ((x : Int) == (y : Int)) = decide (x = y) := by
  by_cases h : x = y
  · subst h; simp
  · have : ((x : Int) == (y : Int)) = false := by simp; omega
    rw [this, decide_eq_false h]

theorem sum_txt (n : Nat) (hn : n < 18446744073709551616) (s0 s1 : ByteArray) (z0 : s0.size ≤ 140737488351232) (z1 : s1.size ≤ 140737488351232) (a b c d : UInt8) (w : World) :
    Calls Try.prog 8 #[.int .u64 n, .string (s0.extract 0 (s0.size - s0.size % 4) ++ ⟨#[a, b, c, d]⟩ ++ s1)] w fun e w' => e = .returned (.int .u64 (su n (txt s0 s1 a b c d))) ∧ Below w.heap.size w w' :=
  su_c n (txt s0 s1 a b c d) hn (by have := txt_size s0 s1 a b c d; omega) w

/-- A region that draws its order and whose calls make memory alone: one walk of the text's order, every operation quiet in the class C. -/
theorem wp_region_quiet_in {P : Program} {id : Nat} {Q : Exit → Act → World → Prop} {a : Act} {w : World} {l : List Oper} (C : World → Prop) (hm : P.follows .mixedOrders = true) (hB : Region.lexB .any l.toArray = true) (hC : C w.drew)
    (h : wpQuiet P l.toArray C (fun a' => ∀ w', C w' → Q .normal a' w') l a) : (Code.region id l.toArray true).wp P Q a w :=
  wp_region_quiet (C := C) hm hB hC (by simpa using h)

set_option maxRecDepth 100000 in
set_option maxHeartbeats 1000000 in
theorem walk (n m : Nat) (hn : n < 18446744073709551616) (hm : m < 18446744073709551616) (s0 s1 : ByteArray) (g0 g1 g2 g3 h0 h1 h2 h3 : UInt8) (z0 : s0.size ≤ 140737488351232) (z1 : s1.size ≤ 140737488351232) (w : World) :
    Calls Try.prog 5 #[.agg #[.int .u64 n, .int .u64 m], .agg #[.string s0, .string s1], .agg #[.int .u8 (g0.toNat : Int), .int .u8 (g1.toNat : Int), .int .u8 (g2.toNat : Int), .int .u8 (g3.toNat : Int), .int .u8 (h0.toNat : Int), .int .u8 (h1.toNat : Int), .int .u8 (h2.toNat : Int), .int .u8 (h3.toNat : Int)]] w fun e w' => e = .returned (.bool true) ∧ Below w.heap.size w w' := by
  go_enter Try.func5, Try.ntmps5
  go_wp2_with fail
  have hw3 := held_new n m s0 s1 g0 g1 g2 g3 h0 h1 h2 h3 w
  refine (awake_any _).mono ?_
  rintro e w1 ⟨rfl, hb1⟩
  have C1 : Cls w n m s0 s1 g0 g1 g2 g3 h0 h1 h2 h3 w1 := ⟨hw3.1.on hb1, hw3.2.trans (hb1.mono hw3.2.size)⟩
  clear hb1 hw3
  have cS0 : w1.cell? ⟨w.heap.size + 1, 0, none⟩ = some (.string s0) := cell_at C1.held.hs 0
  have cS1 : w1.cell? ⟨w.heap.size + 1, 1, none⟩ = some (.string s1) := cell_at C1.held.hs 1
  go_wp2_with fail
  refine wp_region_quiet_in (Cls w n m s0 s1 g0 g1 g2 g3 h0 h1 h2 h3) (by kernel_rfl) (by kernel_rfl) C1.drew ?_
  go_big_quiet_want
  go_big_quiet_op
  apply Exists.intro
  refine ⟨fun _ _ => ?_, ?_⟩
  · with_reducible exact Eq.refl _
  go_big_quiet_on
  go_big_quiet_want
  go_big_quiet_op
  refine ⟨.int .u64 n, fun wx hx => ?_, ?_⟩
  · have c : wx.cell? ⟨w.heap.size, 0, none⟩ = some (.int .u64 n) := cell_at hx.held.hf 0
    simp [go_sem, c]
  go_big_quiet_on
  go_big_quiet_want
  go_big_quiet_op
  go_big_quiet_on
  go_big_quiet_want
  go_big_quiet_op
  apply Exists.intro
  refine ⟨fun _ _ => ?_, ?_⟩
  · with_reducible exact Eq.refl _
  go_big_quiet_on
  go_big_quiet_want
  go_big_quiet_op
  apply Exists.intro
  refine ⟨fun _ _ => ?_, ?_⟩
  · with_reducible exact Eq.refl _
  go_big_quiet_on
  go_big_quiet_want
  go_big_quiet_op
  refine ⟨.string ⟨#[g0, g1, g2, g3]⟩, fun wx hx => ?_, ?_⟩
  · rw [conv_g hx]
    exact ⟨rfl, rfl⟩
  go_big_quiet_on
  go_big_quiet_want
  go_big_quiet_op
  apply Exists.intro
  refine ⟨fun _ _ => ?_, ?_⟩
  · with_reducible exact Eq.refl _
  go_big_quiet_on
  go_big_quiet_want
  go_big_quiet_op
  go_big_quiet_on
  go_big_quiet_want
  go_big_quiet_op
  apply Exists.intro
  refine ⟨fun _ _ => ?_, ?_⟩
  · with_reducible exact Eq.refl _
  go_big_quiet_on
  go_big_quiet_want
  go_big_quiet_op
  refine ⟨.int .u64 (su n (txt s0 s1 g0 g1 g2 g3)), fun wx hx => ?_, ?_⟩
  · refine (sum_txt n hn s0 s1 z0 z1 g0 g1 g2 g3 _).mono ?_
    rintro e w3 ⟨rfl, hb3⟩
    exact ⟨rfl, hx.on hb3⟩
  go_big_quiet_on
  go_big_quiet_want
  go_big_quiet_op
  go_big_quiet_on
  refine wpQuiet_nil ?_
  intro w2 C2
  clear C1 cS0 cS1
  go_wp2_with fail
  refine wp_region_quiet_in (Cls w n m s0 s1 g0 g1 g2 g3 h0 h1 h2 h3) (by kernel_rfl) (by kernel_rfl) C2.drew ?_
  go_big_quiet_want
  go_big_quiet_op
  apply Exists.intro
  refine ⟨fun _ _ => ?_, ?_⟩
  · with_reducible exact Eq.refl _
  go_big_quiet_on
  go_big_quiet_want
  go_big_quiet_op
  refine ⟨.int .u64 n, fun wx hx => ?_, ?_⟩
  · have c : wx.cell? ⟨w.heap.size, 0, none⟩ = some (.int .u64 n) := cell_at hx.held.hf 0
    simp [go_sem, c]
  go_big_quiet_on
  go_big_quiet_want
  go_big_quiet_op
  go_big_quiet_on
  go_big_quiet_want
  go_big_quiet_op
  apply Exists.intro
  refine ⟨fun _ _ => ?_, ?_⟩
  · with_reducible exact Eq.refl _
  go_big_quiet_on
  go_big_quiet_want
  go_big_quiet_op
  apply Exists.intro
  refine ⟨fun _ _ => ?_, ?_⟩
  · with_reducible exact Eq.refl _
  go_big_quiet_on
  go_big_quiet_want
  go_big_quiet_op
  refine ⟨.string ⟨#[h0, h1, h2, h3]⟩, fun wx hx => ?_, ?_⟩
  · rw [conv_h hx]
    exact ⟨rfl, rfl⟩
  go_big_quiet_on
  go_big_quiet_want
  go_big_quiet_op
  apply Exists.intro
  refine ⟨fun _ _ => ?_, ?_⟩
  · with_reducible exact Eq.refl _
  go_big_quiet_on
  go_big_quiet_want
  go_big_quiet_op
  go_big_quiet_on
  go_big_quiet_want
  go_big_quiet_op
  apply Exists.intro
  refine ⟨fun _ _ => ?_, ?_⟩
  · with_reducible exact Eq.refl _
  go_big_quiet_on
  go_big_quiet_want
  go_big_quiet_op
  refine ⟨.int .u64 (su n (txt s0 s1 h0 h1 h2 h3)), fun wx hx => ?_, ?_⟩
  · refine (sum_txt n hn s0 s1 z0 z1 h0 h1 h2 h3 _).mono ?_
    rintro e w3 ⟨rfl, hb3⟩
    exact ⟨rfl, hx.on hb3⟩
  go_big_quiet_on
  go_big_quiet_want
  go_big_quiet_op
  go_big_quiet_on
  refine wpQuiet_nil ?_
  intro w3 C3
  clear C2
  go_wp2_with fail
  refine wp_region_quiet_in (Cls w n m s0 s1 g0 g1 g2 g3 h0 h1 h2 h3) (by kernel_rfl) (by kernel_rfl) C3.drew ?_
  go_big_quiet_want
  go_big_quiet_op
  apply Exists.intro
  refine ⟨fun _ _ => ?_, ?_⟩
  · with_reducible exact Eq.refl _
  go_big_quiet_on
  go_big_quiet_want
  go_big_quiet_op
  refine ⟨.int .u64 m, fun wx hx => ?_, ?_⟩
  · have c : wx.cell? ⟨w.heap.size, 1, none⟩ = some (.int .u64 m) := cell_at hx.held.hf 1
    simp [go_sem, c]
  go_big_quiet_on
  go_big_quiet_want
  go_big_quiet_op
  go_big_quiet_on
  go_big_quiet_want
  go_big_quiet_op
  apply Exists.intro
  refine ⟨fun _ _ => ?_, ?_⟩
  · with_reducible exact Eq.refl _
  go_big_quiet_on
  go_big_quiet_want
  go_big_quiet_op
  apply Exists.intro
  refine ⟨fun _ _ => ?_, ?_⟩
  · with_reducible exact Eq.refl _
  go_big_quiet_on
  go_big_quiet_want
  go_big_quiet_op
  refine ⟨.string ⟨#[g0, g1, g2, g3]⟩, fun wx hx => ?_, ?_⟩
  · rw [conv_g hx]
    exact ⟨rfl, rfl⟩
  go_big_quiet_on
  go_big_quiet_want
  go_big_quiet_op
  apply Exists.intro
  refine ⟨fun _ _ => ?_, ?_⟩
  · with_reducible exact Eq.refl _
  go_big_quiet_on
  go_big_quiet_want
  go_big_quiet_op
  go_big_quiet_on
  go_big_quiet_want
  go_big_quiet_op
  apply Exists.intro
  refine ⟨fun _ _ => ?_, ?_⟩
  · with_reducible exact Eq.refl _
  go_big_quiet_on
  go_big_quiet_want
  go_big_quiet_op
  refine ⟨.int .u64 (su m (txt s0 s1 g0 g1 g2 g3)), fun wx hx => ?_, ?_⟩
  · refine (sum_txt m hm s0 s1 z0 z1 g0 g1 g2 g3 _).mono ?_
    rintro e w3 ⟨rfl, hb3⟩
    exact ⟨rfl, hx.on hb3⟩
  go_big_quiet_on
  go_big_quiet_want
  go_big_quiet_op
  go_big_quiet_on
  refine wpQuiet_nil ?_
  intro w4 C4
  clear C3
  have cF0 : w4.cell? ⟨w.heap.size, 0, none⟩ = some (.int .u64 n) := cell_at C4.held.hf 0
  have cF1 : w4.cell? ⟨w.heap.size, 1, none⟩ = some (.int .u64 m) := cell_at C4.held.hf 1
  have cG0 : w4.cell? ⟨w.heap.size + 1 + 1, 0, none⟩ = some (.int .u8 (g0.toNat : Int)) := cell_at C4.held.hg 0
  have cG1 : w4.cell? ⟨w.heap.size + 1 + 1, 1, none⟩ = some (.int .u8 (g1.toNat : Int)) := cell_at C4.held.hg 1
  have cG2 : w4.cell? ⟨w.heap.size + 1 + 1, 2, none⟩ = some (.int .u8 (g2.toNat : Int)) := cell_at C4.held.hg 2
  have cG3 : w4.cell? ⟨w.heap.size + 1 + 1, 3, none⟩ = some (.int .u8 (g3.toNat : Int)) := cell_at C4.held.hg 3
  have cH0 : w4.cell? ⟨w.heap.size + 1 + 1, 4, none⟩ = some (.int .u8 (h0.toNat : Int)) := cell_at C4.held.hg 4
  have cH1 : w4.cell? ⟨w.heap.size + 1 + 1, 5, none⟩ = some (.int .u8 (h1.toNat : Int)) := cell_at C4.held.hg 5
  have cH2 : w4.cell? ⟨w.heap.size + 1 + 1, 6, none⟩ = some (.int .u8 (h2.toNat : Int)) := cell_at C4.held.hg 6
  have cH3 : w4.cell? ⟨w.heap.size + 1 + 1, 7, none⟩ = some (.int .u8 (h3.toNat : Int)) := cell_at C4.held.hg 7
  have t1 := tells_g hn s0 s1 g0 g1 g2 g3 h0 h1 h2 h3
  have t2 := tells_f hn hm s0 s1 g0 g1 g2 g3
  generalize su n (txt s0 s1 g0 g1 g2 g3) = x at t1 t2 ⊢
  generalize su n (txt s0 s1 h0 h1 h2 h3) = y at t1 ⊢
  generalize su m (txt s0 s1 g0 g1 g2 g3) = z at t2 ⊢
  have B := C4.below
  clear C4
  by_cases e1 : ([g0, g1, g2, g3] == [h0, h1, h2, h3]) = true
  · have hq := eql_g g0 g1 g2 g3 h0 h1 h2 h3 true e1 w4
    have hxy : ((x : Int) == (y : Int)) = true := by rw [beq_n, decide_eq_true (t1.2 e1)]
    by_cases e2 : n = m
    · have hxz : ((x : Int) == (z : Int)) = true := by rw [beq_n, decide_eq_true (t2.2 e2)]
      have hnm : ((n : Int) == (m : Int)) = true := by rw [beq_n, decide_eq_true e2]
      clear t1 t2 e1 e2
      go_wp2
      go_ret
      exact ⟨rfl, B⟩
    · have hxz : ((x : Int) == (z : Int)) = false := by rw [beq_n, decide_eq_false (fun h => e2 (t2.1 h))]
      have hnm : ((n : Int) == (m : Int)) = false := by rw [beq_n, decide_eq_false e2]
      clear t1 t2 e1 e2
      go_wp2
      go_ret
      exact ⟨rfl, B⟩
  · have hq := eql_g g0 g1 g2 g3 h0 h1 h2 h3 false (by simpa using e1) w4
    have hxy : ((x : Int) == (y : Int)) = false := by rw [beq_n, decide_eq_false (fun h => e1 (t1.1 h))]
    by_cases e2 : n = m
    · have hxz : ((x : Int) == (z : Int)) = true := by rw [beq_n, decide_eq_true (t2.2 e2)]
      have hnm : ((n : Int) == (m : Int)) = true := by rw [beq_n, decide_eq_true e2]
      clear t1 t2 e1 e2
      go_wp2
      go_ret
      exact ⟨rfl, B⟩
    · have hxz : ((x : Int) == (z : Int)) = false := by rw [beq_n, decide_eq_false (fun h => e2 (t2.1 h))]
      have hnm : ((n : Int) == (m : Int)) = false := by rw [beq_n, decide_eq_false e2]
      clear t1 t2 e1 e2
      go_wp2
      go_ret
      exact ⟨rfl, B⟩

end Go.Proofs.Ytijppgjjbbkjoaa.mixTells
