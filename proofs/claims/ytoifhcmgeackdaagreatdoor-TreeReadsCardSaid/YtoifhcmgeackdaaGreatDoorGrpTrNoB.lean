/-
  Put together: NodeOk, NodeBld, NodeEnc.
-/
import Derived.Test.YtoifhcmgeackdaaGreatDoorNodeGood
import Derived.Test.YtoifhcmgeackdaaGreatDoorGrpTrNoA
import Derived.Test.YtoifhcmgeackdaaGreatDoorNodeShelf
import Derived.Shelf.Strings.OnBuilder
import Derived.Shelf.Strings.BuilderK
import Derived.Test.YtoifhcmgeackdaaGreatDoorGrpTrNum
/-
  Contract of the project's Good.
-/
namespace Go.Proofs.YtoifhcmgeackdaaGreatDoor
open Go.RowKit
namespace No
open Num (hid)
theorem okN_long {n : N} (h : n.ks.all short = false) : okN n = false := by unfold okN; rw [h]; rfl
theorem okN_rise {n : N} (h : n.ks.all short = true) (h2 : rise n.ks = false) : okN n = false := by unfold okN; rw [h, h2]; rfl
theorem okN_leaf {n : N} (h : n.ks.all short = true) (h2 : rise n.ks = true) (hf : n.f = true) : okN n = okL n := by unfold okN; rw [h, h2, hf]; rfl
theorem okN_inner {n : N} (h : n.ks.all short = true) (h2 : rise n.ks = true) (hf : n.f = false) : okN n = okI n := by unfold okN; rw [h, h2, hf]; rfl
theorem nateq {a b : Nat} {x : Bool} (h : decide (a = b) = x) : ((a : Int) == (b : Int)) = x := (natbeq a b).trans h
theorem nateq0 {a : Nat} {x : Bool} (h : decide (a = 0) = x) : ((a : Int) == 0) = x := (natbeq a 0).trans h
set_option maxRecDepth 100000 in
set_option maxHeartbeats 4000000 in
theorem good_any (kv cv pv : Value) (n : N) (hp : n.ps.length ≤ 4000) (hk : n.ks.length ≤ 1000000) (w : World) (h : NAt w kv cv pv n) :
    Calls Tryz.prog 101 #[nV n.f kv cv pv] w fun e w' => e = .returned (.bool (okN n)) ∧ Below w.heap.size w w' := by
  have HA := hid h
  have HC := hid (fun w h => containsS_any kv n.ks w h)
  have HR := hid (fun w h => rise_any kv n.ks w h)
  have HCC := hid (fun w h => containsC_any cv n.cs w h)
  have HK := hid (fun (h0 : n.ps ≠ []) w h => arekids_any pv n.ps w h h0 (by omega))
  have hA := h.k
  have hB := h.c
  have hC := h.p
  obtain ⟨ao, cap, rfl, -, -, -⟩ := SAt.ways1 hA
  obtain ⟨ao2, cap2, rfl, -, -, -⟩ := CAt.ways3 hB
  obtain ⟨ao3, cap3, rfl, -, -, -⟩ := IAt.ways1 hC
  have B1 := hid ((Below.refl w.heap.size w).alloc (Nat.le_refl _) (.cells #[.bool n.f, .slice ao n.ks.length cap, .slice ao2 n.cs.length cap2, .slice ao3 n.ps.length cap3] tN))
  have N1 := hid (Nb.new n.f (.slice ao n.ks.length cap) (.slice ao2 n.cs.length cap2) (.slice ao3 n.ps.length cap3) w)
  have HA1 := hid (h.on ((Below.refl w.heap.size w).alloc (Nat.le_refl _) (.cells #[.bool n.f, .slice ao n.ks.length cap, .slice ao2 n.cs.length cap2, .slice ao3 n.ps.length cap3] tN)))
  clear h hA hB hC hp
  unfold nV
  cases hs : n.ks.all short with
  | false =>
    rw [okN_long hs]
    rw [hs] at HC
    clear hs
    go_enter Tryz.func101, Tryz.ntmps101
    go_wp2_with fail
    refine (HC.out _ HA1.out.k).mono ?_
    rintro e w3 ⟨rfl, hb⟩
    have B2 := hid (B1.out.trans (hb.mono B1.out.size))
    clear hb
    go_wp2
    go_ret
    exact ⟨rfl, B2.out⟩
  | true =>
    rw [hs] at HC
    cases hr : rise n.ks with
    | false =>
      rw [okN_rise hs hr]
      rw [hr] at HR
      clear hs hr
      go_enter Tryz.func101, Tryz.ntmps101
      go_wp2_with fail
      refine (HC.out _ HA1.out.k).mono ?_
      rintro e w3 ⟨rfl, hb⟩
      have B2 := hid (B1.out.trans (hb.mono B1.out.size))
      have N2 := hid (N1.out.on hb)
      have HA2 := hid (HA1.out.on hb)
      obtain ⟨c0, c1, c2, c3⟩ := N2.out.cells
      clear hb
      go_wp2_with fail
      refine (HR.out _ HA2.out.k).mono ?_
      rintro e w4 ⟨rfl, hb⟩
      have B3 := hid (B2.out.trans (hb.mono B2.out.size))
      clear hb
      go_wp2
      go_ret
      exact ⟨rfl, B3.out⟩
    | true =>
      rw [hr] at HR
      cases hf : n.f with
      | true =>
        rw [okN_leaf hs hr hf]
        rw [hf] at B1 N1 HA1
        have HL : Hid (okL n = (decide (n.cs.length = n.ks.length) && (decide (n.ps.length = 0) && n.cs.all okC))) := hid rfl
        rw [HL.out]
        clear hs hr hf HL
        cases h1 : decide (n.cs.length = n.ks.length) with
        | false =>
          have q1 := nateq h1
          clear h1
          generalize n.ks.length = kl at *
          generalize n.cs.length = cl at *
          generalize n.ps.length = pl at *
          go_enter Tryz.func101, Tryz.ntmps101
          go_wp2_with fail
          refine (HC.out _ HA1.out.k).mono ?_
          rintro e w3 ⟨rfl, hb⟩
          have B2 := hid (B1.out.trans (hb.mono B1.out.size))
          have N2 := hid (N1.out.on hb)
          have HA2 := hid (HA1.out.on hb)
          obtain ⟨c0, c1, c2, c3⟩ := N2.out.cells
          clear hb
          go_wp2_with fail
          refine (HR.out _ HA2.out.k).mono ?_
          rintro e w4 ⟨rfl, hb⟩
          have B3 := hid (B2.out.trans (hb.mono B2.out.size))
          have N3 := hid (N2.out.on hb)
          clear c0 c1 c2 c3
          obtain ⟨c0, c1, c2, c3⟩ := N3.out.cells
          clear hb
          go_wp2
          go_ret
          exact ⟨rfl, B3.out⟩
        | true =>
          have q1 := nateq h1
          clear h1
          cases h2 : decide (n.ps.length = 0) with
          | false =>
            have q2 := nateq0 h2
            clear h2
            generalize n.ks.length = kl at *
            generalize n.cs.length = cl at *
            generalize n.ps.length = pl at *
            go_enter Tryz.func101, Tryz.ntmps101
            go_wp2_with fail
            refine (HC.out _ HA1.out.k).mono ?_
            rintro e w3 ⟨rfl, hb⟩
            have B2 := hid (B1.out.trans (hb.mono B1.out.size))
            have N2 := hid (N1.out.on hb)
            have HA2 := hid (HA1.out.on hb)
            obtain ⟨c0, c1, c2, c3⟩ := N2.out.cells
            clear hb
            go_wp2_with fail
            refine (HR.out _ HA2.out.k).mono ?_
            rintro e w4 ⟨rfl, hb⟩
            have B3 := hid (B2.out.trans (hb.mono B2.out.size))
            have N3 := hid (N2.out.on hb)
            clear c0 c1 c2 c3
            obtain ⟨c0, c1, c2, c3⟩ := N3.out.cells
            clear hb
            go_wp2
            go_ret
            exact ⟨rfl, B3.out⟩
          | true =>
            have q2 := nateq0 h2
            clear h2
            generalize n.ks.length = kl at *
            generalize n.cs.length = cl at *
            generalize n.ps.length = pl at *
            go_enter Tryz.func101, Tryz.ntmps101
            go_wp2_with fail
            refine (HC.out _ HA1.out.k).mono ?_
            rintro e w3 ⟨rfl, hb⟩
            have B2 := hid (B1.out.trans (hb.mono B1.out.size))
            have N2 := hid (N1.out.on hb)
            have HA2 := hid (HA1.out.on hb)
            obtain ⟨c0, c1, c2, c3⟩ := N2.out.cells
            clear hb
            go_wp2_with fail
            refine (HR.out _ HA2.out.k).mono ?_
            rintro e w4 ⟨rfl, hb⟩
            have B3 := hid (B2.out.trans (hb.mono B2.out.size))
            have N3 := hid (N2.out.on hb)
            have HA3 := hid (HA2.out.on hb)
            clear c0 c1 c2 c3
            obtain ⟨c0, c1, c2, c3⟩ := N3.out.cells
            clear hb
            go_wp2_with fail
            refine (HCC.out _ HA3.out.c).mono ?_
            rintro e w5 ⟨rfl, hb⟩
            have B4 := hid (B3.out.trans (hb.mono B3.out.size))
            clear hb c0 c1 c2 c3
            go_wp2
            go_ret
            exact ⟨by simp, B4.out⟩
      | false =>
        rw [okN_inner hs hr hf]
        rw [hf] at B1 N1 HA1
        have HL : Hid (okI n = (decide (0 < n.ks.length) && (decide (n.ps.length = n.ks.length + 1) && (decide (n.cs.length = 0) && (n.ps.all okP && unlike n.ps))))) := hid rfl
        rw [HL.out]
        clear hs hr hf HL
        by_cases h0 : 0 < n.ks.length
        · rw [decide_eq_true h0]
          have g0 : (0 : Int) < n.ks.length := by omega
          by_cases h1 : n.ps.length = n.ks.length + 1
          · rw [decide_eq_true h1]
            have q1 : ((n.ps.length : Int) == (n.ks.length : Int) + 1) = true := by rw [beq_iff_eq]; omega
            have hpn : n.ps ≠ [] := fun e => by rw [e] at h1; simp at h1
            have HKK := hid (HK.out hpn)
            clear hpn HK
            by_cases h2 : n.cs.length = 0
            · rw [decide_eq_true h2]
              have q2 : ((n.cs.length : Int) == 0) = true := by rw [beq_iff_eq]; omega
              clear h0 h1 h2
              generalize n.ks.length = kl at *
              generalize n.cs.length = cl at *
              generalize n.ps.length = pl at *
              go_enter Tryz.func101, Tryz.ntmps101
              go_wp2_with fail
              refine (HC.out _ HA1.out.k).mono ?_
              rintro e w3 ⟨rfl, hb⟩
              have B2 := hid (B1.out.trans (hb.mono B1.out.size))
              have N2 := hid (N1.out.on hb)
              have HA2 := hid (HA1.out.on hb)
              obtain ⟨c0, c1, c2, c3⟩ := N2.out.cells
              clear hb
              go_wp2_with fail
              refine (HR.out _ HA2.out.k).mono ?_
              rintro e w4 ⟨rfl, hb⟩
              have B3 := hid (B2.out.trans (hb.mono B2.out.size))
              have N3 := hid (N2.out.on hb)
              have HA3 := hid (HA2.out.on hb)
              clear c0 c1 c2 c3
              obtain ⟨c0, c1, c2, c3⟩ := N3.out.cells
              clear hb
              go_wp2_with fail
              refine (HKK.out _ HA3.out.p).mono ?_
              rintro e w5 ⟨rfl, hb⟩
              have B4 := hid (B3.out.trans (hb.mono B3.out.size))
              clear hb c0 c1 c2 c3
              go_wp2
              go_ret
              exact ⟨rfl, B4.out⟩
            · rw [decide_eq_false h2]
              have q2 : ((n.cs.length : Int) == 0) = false := by rw [beq_eq_false_iff_ne]; omega
              clear h0 h1 h2
              generalize n.ks.length = kl at *
              generalize n.cs.length = cl at *
              generalize n.ps.length = pl at *
              go_enter Tryz.func101, Tryz.ntmps101
              go_wp2_with fail
              refine (HC.out _ HA1.out.k).mono ?_
              rintro e w3 ⟨rfl, hb⟩
              have B2 := hid (B1.out.trans (hb.mono B1.out.size))
              have N2 := hid (N1.out.on hb)
              have HA2 := hid (HA1.out.on hb)
              obtain ⟨c0, c1, c2, c3⟩ := N2.out.cells
              clear hb
              go_wp2_with fail
              refine (HR.out _ HA2.out.k).mono ?_
              rintro e w4 ⟨rfl, hb⟩
              have B3 := hid (B2.out.trans (hb.mono B2.out.size))
              have N3 := hid (N2.out.on hb)
              clear c0 c1 c2 c3
              obtain ⟨c0, c1, c2, c3⟩ := N3.out.cells
              clear hb
              go_wp2
              go_ret
              exact ⟨rfl, B3.out⟩
          · rw [decide_eq_false h1]
            have q1 : ((n.ps.length : Int) == (n.ks.length : Int) + 1) = false := by rw [beq_eq_false_iff_ne]; omega
            clear h0 h1
            generalize n.ks.length = kl at *
            generalize n.cs.length = cl at *
            generalize n.ps.length = pl at *
            go_enter Tryz.func101, Tryz.ntmps101
            go_wp2_with fail
            refine (HC.out _ HA1.out.k).mono ?_
            rintro e w3 ⟨rfl, hb⟩
            have B2 := hid (B1.out.trans (hb.mono B1.out.size))
            have N2 := hid (N1.out.on hb)
            have HA2 := hid (HA1.out.on hb)
            obtain ⟨c0, c1, c2, c3⟩ := N2.out.cells
            clear hb
            go_wp2_with fail
            refine (HR.out _ HA2.out.k).mono ?_
            rintro e w4 ⟨rfl, hb⟩
            have B3 := hid (B2.out.trans (hb.mono B2.out.size))
            have N3 := hid (N2.out.on hb)
            clear c0 c1 c2 c3
            obtain ⟨c0, c1, c2, c3⟩ := N3.out.cells
            clear hb
            go_wp2
            go_ret
            exact ⟨rfl, B3.out⟩
        · rw [decide_eq_false h0]
          have g0 : ¬ (0 : Int) < n.ks.length := by omega
          clear h0
          generalize n.ks.length = kl at *
          generalize n.cs.length = cl at *
          generalize n.ps.length = pl at *
          go_enter Tryz.func101, Tryz.ntmps101
          go_wp2_with fail
          refine (HC.out _ HA1.out.k).mono ?_
          rintro e w3 ⟨rfl, hb⟩
          have B2 := hid (B1.out.trans (hb.mono B1.out.size))
          have N2 := hid (N1.out.on hb)
          have HA2 := hid (HA1.out.on hb)
          obtain ⟨c0, c1, c2, c3⟩ := N2.out.cells
          clear hb
          go_wp2_with fail
          refine (HR.out _ HA2.out.k).mono ?_
          rintro e w4 ⟨rfl, hb⟩
          have B3 := hid (B2.out.trans (hb.mono B2.out.size))
          have N3 := hid (N2.out.on hb)
          clear c0 c1 c2 c3
          obtain ⟨c0, c1, c2, c3⟩ := N3.out.cells
          clear hb
          go_wp2
          go_ret
          exact ⟨rfl, B3.out⟩
end No
end Go.Proofs.YtoifhcmgeackdaaGreatDoor

/-
  A builder that a call makes, strings.Repeat and strings.Clone, strings.Trim, Compare: what the library's functions give, in node's words.
-/
namespace Go.Proofs.YtoifhcmgeackdaaGreatDoor
open Go.RowKit Go.Shelf
namespace No
open Num (hid)
theorem extra : Builder.Extra Tryz.prog Tryz.repeatH_ren where
  sizeBuilder := by kernel_rfl
  liesBuilder := by kernel_rfl
  t5 := Tryz.repeatH.t5
  a5 := Tryz.repeatH.a5
  z5 := Tryz.repeatH.z5
  v5 := Tryz.repeatH.v5
  infoByte := by kernel_rfl
  cellsByte := by kernel_rfl
  sizeByte := by kernel_rfl
  neB5 := by decide
theorem repeat_is : Tryz.repeatH_ren.f 105 = 36 := by kernel_rfl
theorem repeat_any (k : Nat) (hk : k ≤ 1000) (w : World) :
    Calls Tryz.prog 36 #[.string ⟨#[0]⟩, .int .i64 k] w fun e w' => e = .returned (.string (bs (zeros k))) ∧ Below w.heap.size w w' := by
  have h := Any.strings_Repeat Tryz.repeatH extra ⟨#[0]⟩ k w (by omega) (by show 1 * k ≤ _; omega)
  rw [repeat_is] at h
  have e : Lib.repeatL (⟨#[0]⟩ : ByteArray).data.toList k = zeros k := by
    have := Lib.repeatL_replicate 0 1 k
    rw [Nat.mul_one] at this
    exact this
  rw [e] at h
  exact h
abbrev tU8 : TypeId := 5
abbrev tBld : TypeId := 142
theorem fown_on {w w' : World} {base : Nat} {e : TypeId} {v : Value} {n : Nat} {l : List Value} (h : w.ownsRowF base e 1 v n l) (hb : Below w.heap.size w w') : w'.ownsRowF base e 1 v n l := by
  obtain ⟨h1, h2⟩ := h
  refine ⟨h1, ?_⟩
  rcases h2 with h2 | ⟨g, cap, cur, fz, e1, e2, e3, e4⟩
  · exact Or.inl h2
  · exact Or.inr ⟨g, cap, cur, fz, e1, e2, (hb.block _ (lt_of_block e3)).trans e3, e4⟩
theorem fbat_on {T e : TypeId} {B b : Nat} {p : Value} {l : List Value} {w w' : World} (h : Lib.BuilderAtF T e B b p l w) (hb : Below w.heap.size w w') : Lib.BuilderAtF T e B b p l w' := by
  obtain ⟨h1, v, h2, h3, h4⟩ := h
  exact ⟨h1, v, (hb.block _ (lt_of_block h2)).trans h2, fown_on h3 hb, h4⟩
/-- A builder of the call's own that holds bytes. -/
abbrev FB (b : Nat) (l : Bs) (w : World) : Prop := Lib.IsBuilderF tBld tU8 b b (Lib.byteCells l) w
theorem FB.on {b : Nat} {l : Bs} {w w' : World} (h : FB b l w) (hb : Below w.heap.size w w') : FB b l w' :=
  h.elim (fun h => Or.inl (fbat_on h hb)) (fun h => Or.inr (fbat_on h hb))
theorem FB.fresh (w : World) : FB w.heap.size [] (w.alloc (.cells #[.pointer none, .slice none 0 0] tBld)) :=
  Or.inl ⟨Nat.le_refl _, .slice none 0 0, heap_alloc_new w _, World.ownsRowF_nil _ _ _ _, by simp [Value.ownBlock]⟩
theorem fstr_any (b : Nat) (l x : Bs) (w : World) (h : FB b l w) (hlen : l.length + x.length ≤ 140737488355328) (hb : b ≤ w.heap.size) :
    Calls Tryz.prog 75 #[.pointer (some ⟨b, 0, none⟩), .string (bs x)] w fun e w' => e = .returned (.tuple #[.int .i64 (bs x).size, .nilIface]) ∧ FB b (l ++ x) w' ∧ Below b w w' ∧ Lib.OthersKept tU8 (some b) w w' := by
  have hL : Lays.n166 Tryz.prog Tryz.repeatH_ren := { Tryz.repeatH with }
  refine (Any.Builder_WriteString_k hL extra b b (Lib.byteCells l) (bs x) w h (by rw [Lib.byteCells_length, bs_size]; exact hlen) hb).mono ?_
  rintro e w' ⟨rfl, h1, h2, h3⟩
  refine ⟨rfl, Or.inr ?_, h2, h3⟩
  rw [Lib.strCells_eq, ← Lib.byteCells_append] at h1
  exact h1
theorem fend_any (b : Nat) (l : Bs) (w : World) (h : FB b l w) (hb : b ≤ w.heap.size) :
    Calls Tryz.prog 77 #[.pointer (some ⟨b, 0, none⟩)] w fun e w' => e = .returned (.string (bs l)) ∧ Below b w w' := by
  have hL : Lays.n169 Tryz.prog Tryz.repeatH_ren := { Tryz.repeatH with }
  refine (Any.Builder_String_any_f hL extra b b l w h hb).mono ?_
  rintro e w' ⟨rfl, _, h2⟩
  exact ⟨rfl, h2⟩
/-- A boxed node above the builder stands. -/
theorem kept_blk {b g : Nat} {cs : Array Value} {t : TypeId} {w w' : World} (h : Lib.OthersKept tU8 (some b) w w') (hx : w.heap[g]? = some (.cells cs t (0, 0))) (hne : g ≠ b) (ht : t ≠ tU8) : w'.heap[g]? = some (.cells cs t (0, 0)) := by
  refine h g _ hx (by simpa using hne) ?_
  intro c fz e
  simp only [Obj.cells.injEq] at e
  exact absurd e.2.1 ht
theorem clone_any (s : ByteArray) (w : World) (hs : s.size ≤ 281474976710656) : Calls Tryz.prog 82 #[.string s] w fun e w' => e = .returned (.string s) ∧ Below w.heap.size w w' := by
  have C := hid (fun w => AnyPu.stringslite_Clone Tryz.cloneL s w hs)
  go_enter Tryz.func82, Tryz.ntmps82
  go_wp2_with fail
  refine (C.out _).mono ?_
  rintro e w' ⟨rfl, hb⟩
  have HB := hid hb
  clear hb
  go_wp2
  go_ret
  exact ⟨rfl, HB.out⟩
theorem cmp_any (a b : ByteArray) (w : World) : Calls Tryz.prog 103 #[.string a, .string b] w fun e w' => e = .returned (.int .i64 (Lib.compareBytes (bl a) (bl b))) ∧ w = w' :=
  (Any.strings_Compare Tryz.cmpL a b w).mono fun _ _ h => ⟨h.1, h.2.symm⟩
theorem dropWhile_all {l : Bs} {p : UInt8 → Bool} (h : ∀ x ∈ l, p x = true) : l.dropWhile p = [] := by
  induction l with
  | nil => rfl
  | cons a l ih => rw [List.dropWhile_cons, if_pos (h a (by simp))]; exact ih fun x hx => h x (by simp [hx])
theorem dropWhile_none {p : UInt8 → Bool} : ∀ {l : Bs}, l.dropWhile p = [] → ∀ x ∈ l, p x = true
  | a :: l, h, x, hx => by
    rw [List.dropWhile_cons] at h
    by_cases ha : p a = true
    · rw [if_pos ha] at h
      rcases List.mem_cons.1 hx with rfl | hx
      · exact ha
      · exact dropWhile_none h x hx
    · rw [if_neg ha] at h; cases h
theorem dropWhile_head {p : UInt8 → Bool} : ∀ {l r : Bs} {a : UInt8}, l.dropWhile p = a :: r → p a = false
  | b :: l, r, a, h => by
    rw [List.dropWhile_cons] at h
    by_cases hb : p b = true
    · rw [if_pos hb] at h; exact dropWhile_head h
    · rw [if_neg hb] at h; cases h; simpa using hb
theorem trim_blank (S : Bs) : decide (Lib.trimB S 0 = []) = blank S := by
  unfold Lib.trimB Lib.trimLeftB Lib.trimRightB blank
  rw [Bool.eq_iff_iff, decide_eq_true_eq, List.all_eq_true]
  constructor
  · intro h
    cases hr : S.reverse.dropWhile (· == 0) with
    | nil => exact fun x hx => dropWhile_none hr x (by simpa using hx)
    | cons a r =>
      rw [hr] at h
      have h1 := dropWhile_head hr
      have h2 := dropWhile_none h a (by simp)
      rw [h1] at h2; cases h2
  · intro h
    rw [dropWhile_all (l := S.reverse) (fun x hx => h x (by simpa using hx))]
    rfl
theorem trim_any (S : Bs) (w : World) (hs : S.length ≤ 9223372036854775807) : Calls Tryz.prog 121 #[.string (bs S), .string ⟨#[0]⟩] w fun e w' => (∃ X, e = .returned (.string (bs X)) ∧ decide (X = []) = blank S) ∧ Below w.heap.size w w' := by
  refine (Any.strings_Trim_one Tryz.trimL (bs S) 0 (by decide) w (by rw [bs_size]; exact hs)).mono ?_
  rintro e w' ⟨rfl, hw⟩
  refine ⟨⟨Lib.trimB S 0, rfl, ?_⟩, ?_⟩
  · exact trim_blank S
  · rcases hw with rfl | rfl
    · exact Below.refl _ _
    · exact (Below.refl _ _).drew
end No
end Go.Proofs.YtoifhcmgeackdaaGreatDoor

/-
  Contracts of the project's bytesOf, Size, Encode.
-/
namespace Go.Proofs.YtoifhcmgeackdaaGreatDoor
open Go.RowKit
namespace No
open Num (hid varB fixF)
def upto (n : N) (k : Nat) : Bs := headB n ++ ((items n).take k).flatten
theorem upto_next {n : N} {k : Nat} (h : k < (items n).length) : upto n (k + 1) = upto n k ++ (items n)[k] := by
  unfold upto
  rw [List.take_succ_eq_append_getElem h, List.flatten_append, List.append_assoc]
  simp
theorem upto_all {n : N} {k : Nat} (h : (items n).length ≤ k) : upto n k = encN n := by unfold upto encN; rw [List.take_of_length_le h]
theorem okN_ways {n : N} (h : okN n = true) : n.ks.all short = true ∧ rise n.ks = true ∧ ((n.f = true ∧ n.cs.length = n.ks.length ∧ n.ps = [] ∧ n.cs.all okC = true) ∨ (n.f = false ∧ 0 < n.ks.length ∧ n.ps.length = n.ks.length + 1 ∧ n.cs = [] ∧ n.ps.all okP = true ∧ unlike n.ps = true)) := by
  unfold okN at h
  rw [Bool.and_eq_true, Bool.and_eq_true] at h
  obtain ⟨h1, h2, h3⟩ := h
  refine ⟨h1, h2, ?_⟩
  cases hf : n.f with
  | true =>
    rw [hf, if_pos rfl] at h3
    unfold okL at h3
    simp only [Bool.and_eq_true, decide_eq_true_eq] at h3
    exact Or.inl ⟨rfl, h3.1, List.length_eq_zero_iff.1 h3.2.1, h3.2.2⟩
  | false =>
    rw [hf, if_neg (by decide)] at h3
    unfold okI at h3
    simp only [Bool.and_eq_true, decide_eq_true_eq] at h3
    exact Or.inr ⟨rfl, h3.1, h3.2.1, List.length_eq_zero_iff.1 h3.2.2.1, h3.2.2.2.1, h3.2.2.2.2⟩
theorem short_at {l : List Bs} (h : l.all short = true) (k : Nat) (hk : k < l.length) : l[k].length ≤ 64 := by
  have := List.all_eq_true.1 h l[k] (List.getElem_mem hk)
  simpa [short] using this
theorem okC_at {l : List C} (h : l.all okC = true) (k : Nat) (hk : k < l.length) : okC l[k] = true := List.all_eq_true.1 h l[k] (List.getElem_mem hk)
theorem okP_at {l : List Int} (h : l.all okP = true) (k : Nat) (hk : k < l.length) : 1 ≤ l[k] ∧ l[k] < 4096 := by
  have := List.all_eq_true.1 h l[k] (List.getElem_mem hk)
  unfold okP at this
  simpa using this
theorem kB_most {k : Bs} (h : k.length ≤ 64) : (kB k).length ≤ 74 := by
  have := Num.varB_le k.length
  unfold kB
  rw [List.length_append]; omega
theorem encC_most {c : C} (h : okC c = true) : (encC c).length ≤ 50 := by
  have := Num.varB_le c.z.toNat
  obtain ⟨h1, h2, h3⟩ := okC_ways h
  unfold encC
  rw [List.length_append]
  rcases h3 with ⟨a, b, _⟩ | ⟨a, _⟩
  · rw [if_pos a]; omega
  · rw [if_neg (by omega), Num.fixF_length]; omega
theorem flat_most : ∀ (l : List Bs) (_ : ∀ x ∈ l, x.length ≤ 130), l.flatten.length ≤ l.length * 130
  | [], _ => Nat.zero_le _
  | a :: l, h => by
    have h1 := h a (by simp)
    have h2 := flat_most l (fun x hx => h x (by simp [hx]))
    rw [List.flatten_cons, List.length_append, List.length_cons]
    omega
theorem items_leaf {n : N} (hf : n.f = true) (hc : n.cs.length = n.ks.length) : (items n).length = n.ks.length ∧ ∀ k (h : k < (items n).length) (h1 : k < n.ks.length) (h2 : k < n.cs.length), (items n)[k] = kB n.ks[k] ++ encC n.cs[k] := by
  have e : items n = itsL n.ks n.cs := by unfold items; rw [hf]; rfl
  have hl : (items n).length = n.ks.length := by rw [e]; unfold itsL; rw [List.length_zipWith]; omega
  refine ⟨hl, fun k h h1 h2 => ?_⟩
  have : (itsL n.ks n.cs)[k]'(by rw [← e]; exact h) = kB n.ks[k] ++ encC n.cs[k] := by unfold itsL; rw [List.getElem_zipWith]
  rw [← this]
  congr 1
theorem items_inner {n : N} (hf : n.f = false) (hc : n.ps.length = n.ks.length + 1) : (items n).length = n.ks.length ∧ ∀ k (h : k < (items n).length) (h1 : k < n.ks.length) (h2 : k + 1 < n.ps.length), (items n)[k] = kB n.ks[k] ++ fixF 4 n.ps[k + 1].toNat := by
  have e : items n = itsI n.ks n.ps.tail := by unfold items; rw [hf]; rfl
  have hl : (items n).length = n.ks.length := by rw [e]; unfold itsI; rw [List.length_zipWith, List.length_tail]; omega
  refine ⟨hl, fun k h h1 h2 => ?_⟩
  have : (itsI n.ks n.ps.tail)[k]'(by rw [← e]; exact h) = kB n.ks[k] ++ fixF 4 n.ps[k + 1].toNat := by unfold itsI; rw [List.getElem_zipWith, List.getElem_tail]
  rw [← this]
  congr 1
theorem upto_most {n : N} (h : okN n = true) (hl : n.ks.length ≤ 1000) (k : Nat) : (upto n k).length ≤ 140000 := by
  obtain ⟨h1, h2, h3⟩ := okN_ways h
  have hh : (headB n).length ≤ 7 := by
    unfold headB
    simp only [List.length_append, Num.fixF_length]
    split <;> simp [Num.fixF_length]
  have hi : ∀ x ∈ (items n).take k, x.length ≤ 130 := by
    intro x hx
    obtain ⟨j, hj, rfl⟩ := List.getElem_of_mem (List.mem_of_mem_take hx)
    rcases h3 with ⟨a, b, c, d⟩ | ⟨a, b, c, d, e, _⟩
    · obtain ⟨il, ig⟩ := items_leaf a b
      rw [ig j hj (by omega) (by omega), List.length_append]
      have q1 := kB_most (short_at h1 j (by omega))
      have q2 := encC_most (okC_at d j (by omega))
      omega
    · obtain ⟨il, ig⟩ := items_inner a c
      rw [ig j hj (by omega) (by omega), List.length_append, Num.fixF_length]
      have q1 := kB_most (short_at h1 j (by omega))
      omega
  have hf := flat_most _ hi
  have hn : ((items n).take k).length ≤ 1000 := by
    rw [List.length_take]
    rcases h3 with ⟨a, b, c, d⟩ | ⟨a, b, c, d, e, _⟩
    · rw [(items_leaf a b).1]; omega
    · rw [(items_inner a c).1]; omega
  unfold upto
  rw [List.length_append]
  omega
/-! ### Small pieces -/
theorem fixed_w (n : Nat) (k : Nat) (hn : n < 18446744073709551616) (hk : 1 ≤ k) (hk8 : k ≤ 8) (w : World) : Calls Tryz.prog 146 #[.int .u64 (n : Nat), .int .i64 (k : Nat)] w fun e w' => e = .returned (.string (bs (fixF k n))) ∧ Below w.heap.size w w' := by
  have h := Num.fixed_any n hn k w
  have e : Num.clampW (k : Int) = k := by unfold Num.clampW; rw [if_neg (by omega), if_neg (by omega)]; rfl
  rw [e] at h
  exact h
theorem fixed_1 (w : World) : Calls Tryz.prog 146 #[.int .u64 1, .int .i64 1] w fun e w' => e = .returned (.string (bs [1])) ∧ Below w.heap.size w w' := fixed_w 1 1 (by decide) (by decide) (by decide) w
theorem fixed_2 (w : World) : Calls Tryz.prog 146 #[.int .u64 2, .int .i64 1] w fun e w' => e = .returned (.string (bs [2])) ∧ Below w.heap.size w w' := fixed_w 2 1 (by decide) (by decide) (by decide) w
theorem var_b (n : Nat) (hn : n < 18446744073709551616) (w : World) : Calls Tryz.prog 165 #[.int .u64 n] w fun e w' => e = .returned (.string (bs (varB n))) ∧ Below w.heap.size w w' := Num.var_any n hn w
theorem u64_id {n : Nat} (h : n < 18446744073709551616) : IntKind.u64.wrap (n : Int) = (n : Int) := by rw [Num.wrap_u]; omega
theorem pageof_any (p : Int) (h0 : 1 ≤ p) (h1 : p < 4096) (w : World) : Calls Tryz.prog 164 #[.int .i64 p] w fun e w' => e = .returned (.string (bs (fixF 4 p.toNat))) ∧ Below w.heap.size w w' := by
  obtain ⟨q, rfl⟩ := Int.eq_ofNat_of_zero_le (show 0 ≤ p by omega)
  rw [show ((q : Int)).toNat = q from rfl]
  have hw : IntKind.u64.wrap (q : Int) = (q : Int) := u64_id (by omega)
  have HF := hid (fixed_w q 4 (by omega) (by decide) (by decide))
  clear h0 h1
  go_enter Tryz.func164, Tryz.ntmps164
  go_wp2_with fail
  refine (HF.out _).mono ?_
  rintro e w' ⟨rfl, hb⟩
  have HB := hid hb
  clear hb
  go_wp2
  go_ret
  exact ⟨rfl, HB.out⟩
set_option maxRecDepth 100000 in
set_option maxHeartbeats 1000000 in
theorem cellof_any (c : C) (h : okC c = true) (w : World) : Calls Tryz.prog 166 #[c.agg] w fun e w' => e = .returned (.string (bs (encC c))) ∧ Below w.heap.size w w' := by
  obtain ⟨h0, h5, hw⟩ := okC_ways h
  obtain ⟨z, d, p⟩ := c
  simp only at h0 h5 hw
  obtain ⟨m, rfl⟩ := Int.eq_ofNat_of_zero_le h0
  have B1 := hid ((Below.refl w.heap.size w).alloc (Nat.le_refl _) (.cells #[.int .i64 (m : Int), .string (bs d), .int .i64 p] tC))
  have N1 := hid (Cb.new ⟨m, d, p⟩ w)
  have hu : IntKind.u64.wrap (m : Int) = (m : Int) := u64_id (by omega)
  have HV := hid (var_b m (by omega))
  have hvl := Num.varB_le m
  unfold encC C.agg
  simp only
  rw [show ((m : Int)).toNat = m from rfl]
  rcases hw with ⟨h3, h4, h6⟩ | ⟨h3, h4, h6, h7⟩
  · rw [if_pos h3]
    have HI := hid (isinline_any (m : Int))
    rw [decide_eq_true h3] at HI
    have hno : ¬ 9223372036854775807 < (bs (varB m)).size + (bs d).size := by rw [bs_size, bs_size]; omega
    have HX := hid (bs_append (varB m) d)
    clear h h0 h5 h3 h4 h6 hvl
    go_enter Tryz.func166, Tryz.ntmps166
    go_wp2_with fail
    refine (HV.out _).mono ?_
    rintro e w3 ⟨rfl, hb⟩
    have N2 := hid (N1.out.on hb)
    have B2 := hid (B1.out.trans (hb.mono B1.out.size))
    obtain ⟨c0, c1, c2⟩ := N2.out.cells
    clear hb
    simp only at c0 c1 c2
    go_wp2_with fail
    refine (HI.out _).mono ?_
    rintro e w4 ⟨rfl, rfl⟩
    go_wp2
    go_ret
    exact ⟨rfl, B2.out⟩
  · rw [if_neg (by omega)]
    have HI := hid (isinline_any (m : Int))
    rw [decide_eq_false (by omega)] at HI
    have hno : ¬ 9223372036854775807 < (bs (varB m)).size + (bs (fixF 4 p.toNat)).size := by rw [bs_size, bs_size, Num.fixF_length]; omega
    have HX := hid (bs_append (varB m) (fixF 4 p.toNat))
    have HP := hid (pageof_any p h6 h7)
    clear h h0 h5 h3 h4 h6 h7 hvl
    go_enter Tryz.func166, Tryz.ntmps166
    go_wp2_with fail
    refine (HV.out _).mono ?_
    rintro e w3 ⟨rfl, hb⟩
    have N2 := hid (N1.out.on hb)
    have B2 := hid (B1.out.trans (hb.mono B1.out.size))
    obtain ⟨c0, c1, c2⟩ := N2.out.cells
    clear hb
    simp only at c0 c1 c2
    go_wp2_with fail
    refine (HI.out _).mono ?_
    rintro e w4 ⟨rfl, rfl⟩
    go_wp2_with fail
    refine (HP.out _).mono ?_
    rintro e w5 ⟨rfl, hb⟩
    have B3 := hid (B2.out.trans (hb.mono B2.out.size))
    clear hb
    go_wp2
    go_ret
    exact ⟨rfl, B3.out⟩
abbrev nObj (f : Bool) (ks cs ps : Value) : Obj := .cells #[.bool f, ks, cs, ps] tN
abbrev bObj : Obj := .cells #[.pointer none, .slice none 0 0] tBld
theorem nb_at {w wr : World} {f : Bool} {ks cs ps : Value} (h : Below (w.heap.size + 1) (w.alloc (nObj f ks cs ps)) wr) : Nb w.heap.size f ks cs ps wr := (h.block _ (Nat.lt_succ_self _)).trans (Nb.new f ks cs ps w)
theorem bel_at {w wr : World} {f : Bool} {ks cs ps : Value} (h : Below (w.heap.size + 1) (w.alloc (nObj f ks cs ps)) wr) : Below w.heap.size w wr := ((Below.refl _ _).alloc (Nat.le_refl _) _).trans (h.mono (Nat.le_succ _))
theorem fb_fresh (f : Bool) (ks cs ps : Value) (w : World) : FB (w.heap.size + 1) [] ((w.alloc (nObj f ks cs ps)).alloc bObj) := by
  have h := FB.fresh (w.alloc (nObj f ks cs ps))
  have e : (w.alloc (nObj f ks cs ps)).heap.size = w.heap.size + 1 := by simp
  rw [e] at h
  exact h
theorem bel_fresh (f : Bool) (ks cs ps : Value) (w : World) : Below (w.heap.size + 1) (w.alloc (nObj f ks cs ps)) ((w.alloc (nObj f ks cs ps)).alloc bObj) := (Below.refl _ _).alloc (by simp) _
/-- What the walk carries: the builder's bytes, the node's box. -/
structure Bst (w : World) (f : Bool) (ks cs ps : Value) (l : Bs) (wr : World) : Prop where
  fb : FB (w.heap.size + 1) l wr
  be : Below (w.heap.size + 1) (w.alloc (nObj f ks cs ps)) wr
  lt : w.heap.size + 1 < wr.heap.size
theorem Bst.start (f : Bool) (ks cs ps : Value) (w : World) : Bst w f ks cs ps [] ((w.alloc (nObj f ks cs ps)).alloc bObj) := ⟨fb_fresh f ks cs ps w, bel_fresh f ks cs ps w, by simp⟩
theorem Bst.on {w : World} {f : Bool} {ks cs ps : Value} {l : Bs} {wr w' : World} (h : Bst w f ks cs ps l wr) (hb : Below wr.heap.size wr w') : Bst w f ks cs ps l w' := ⟨h.fb.on hb, h.be.trans (hb.mono (Nat.le_of_lt h.lt)), Nat.lt_of_lt_of_le h.lt hb.size⟩
/-- WriteString. -/
theorem Bst.put {w : World} {f : Bool} {ks cs ps : Value} {l : Bs} {wr : World} (h : Bst w f ks cs ps l wr) (x : Bs) (hl : l.length ≤ 1000000) (hx : x.length ≤ 1000000) :
    Calls Tryz.prog 75 #[.pointer (some ⟨w.heap.size + 1, 0, none⟩), .string (bs x)] wr fun e w' => e = .returned (.tuple #[.int .i64 (bs x).size, .nilIface]) ∧ Bst w f ks cs ps (l ++ x) w' := by
  refine (fstr_any (w.heap.size + 1) l x wr h.fb (by omega) (Nat.le_of_lt h.lt)).mono ?_
  rintro e w' ⟨rfl, h1, h2, -⟩
  exact ⟨rfl, h1, h.be.trans h2, Nat.lt_of_lt_of_le h.lt h2.size⟩
theorem Bst.fin {w : World} {f : Bool} {ks cs ps : Value} {l : Bs} {wr : World} (h : Bst w f ks cs ps l wr) :
    Calls Tryz.prog 77 #[.pointer (some ⟨w.heap.size + 1, 0, none⟩)] wr fun e w' => e = .returned (.string (bs l)) ∧ Below w.heap.size w w' := by
  refine (fend_any (w.heap.size + 1) l wr h.fb (Nat.le_of_lt h.lt)).mono ?_
  rintro e w' ⟨rfl, h1⟩
  exact ⟨rfl, (bel_at h.be).trans (h1.mono (Nat.le_succ _))⟩
theorem Bst.cells {w : World} {f : Bool} {ks cs ps : Value} {l : Bs} {wr : World} (h : Bst w f ks cs ps l wr) : wr.cell? ⟨w.heap.size, 0, none⟩ = some (.bool f) ∧ wr.cell? ⟨w.heap.size, 1, none⟩ = some ks ∧ wr.cell? ⟨w.heap.size, 2, none⟩ = some cs ∧ wr.cell? ⟨w.heap.size, 3, none⟩ = some ps := (nb_at h.be).cells
theorem Bst.cell {w : World} {f : Bool} {ks cs ps : Value} {l : Bs} {wr : World} (h : Bst w f ks cs ps l wr) {b o : Nat} {v : Value} (hb : b < w.heap.size) (hc : w.cell? ⟨b, o, none⟩ = some v) : wr.cell? ⟨b, o, none⟩ = some v := ((bel_at h.be).cell (p := ⟨b, o, none⟩) hb).trans hc
set_option maxRecDepth 100000 in
set_option maxHeartbeats 4000000 in
theorem bytesof_leaf (kv cv pv : Value) (n : N) (hf : n.f = true) (hok : okN n = true) (hl : n.ks.length ≤ 1000) (w : World) (h : NAt w kv cv pv n) :
    Calls Tryz.prog 129 #[nV true kv cv pv] w fun e w' => e = .returned (.string (bs (encN n))) ∧ Below w.heap.size w w' := by
  obtain ⟨h1, h2, h3⟩ := okN_ways hok
  have h3' : n.cs.length = n.ks.length ∧ n.cs.all okC = true := by
    rcases h3 with ⟨-, hc, -, hcs⟩ | ⟨hf', _⟩
    · exact ⟨hc, hcs⟩
    · rw [hf] at hf'; cases hf'
  obtain ⟨hc, hcs⟩ := h3'
  clear h3
  obtain ⟨il, ig⟩ := items_leaf hf hc
  obtain ⟨ao, cap, rfl, -, -, hat⟩ := SAt.ways1 h.k
  obtain ⟨ao2, cap2, rfl, -, -, hat2⟩ := CAt.ways3 h.c
  have HK := hid hat
  have HC := hid hat2
  have HSh := hid (short_at h1)
  have HOC := hid (okC_at hcs)
  have HN := hid (fun k (h : k < (items n).length) => upto_next h)
  have HG := hid ig
  have HM := hid (upto_most hok hl)
  have HA := hid (fun k (h : (items n).length ≤ k) => upto_all (n := n) h)
  have HH : Hid (headB n = [1] ++ fixF 2 n.ks.length) := hid (by unfold headB; rw [hf]; simp)
  have hu0 : IntKind.u64.wrap (n.ks.length : Int) = (n.ks.length : Int) := u64_id (by omega)
  have HF2 := hid (fixed_w n.ks.length 2 (by omega) (by decide) (by decide))
  rw [hc]
  have S0 := hid (Bst.start true (.slice ao n.ks.length cap) (.slice ao2 n.ks.length cap2) pv w)
  clear h hat hat2 hok h1 h2 hcs ig
  obtain ⟨nl, hnl⟩ : ∃ x, n.ks.length = x := ⟨_, rfl⟩
  rw [hnl] at HF2 S0 HH hu0 il hl hc ⊢
  have HNL := hid hnl
  have HIL := hid il
  have HCL := hid hc
  clear hnl il hc hf
  unfold nV
  go_enter Tryz.func129, Tryz.ntmps129
  go_wp2_with fail
  refine (fixed_1 _).mono ?_
  rintro e w3 ⟨rfl, hb⟩
  have S1 := hid (S0.out.on hb)
  clear hb
  go_wp2_with fail
  refine (S1.out.put [1] (by decide) (by decide)).mono ?_
  rintro e w4 ⟨rfl, hs⟩
  have S2 := hid hs
  obtain ⟨c0, c1, c2, c3⟩ := S2.out.cells
  clear hs
  go_wp2_with fail
  refine (HF2.out _).mono ?_
  rintro e w5 ⟨rfl, hb⟩
  have S3 := hid (S2.out.on hb)
  clear hb c0 c1 c2 c3
  go_wp2_with fail
  refine (S3.out.put (fixF 2 nl) (by decide) (by rw [Num.fixF_length]; decide)).mono ?_
  rintro e w6 ⟨rfl, hs⟩
  have S4 : Hid (Bst w true (.slice ao nl cap) (.slice ao2 nl cap2) pv (upto n 0) w6) := hid (by unfold upto; rw [List.take_zero, HH.out]; simpa using hs)
  obtain ⟨c0, c1, c2, c3⟩ := S4.out.cells
  clear hs
  go_wp2
  go_loopw [30] (fun i wr => ∃ k : Nat, k ≤ nl ∧ i = .int .i64 k ∧ Hid (Bst w true (.slice ao nl cap) (.slice ao2 nl cap2) pv (upto n k) wr)) (fun i _ => nl - (intOf i).toNat)
  case atStart => exact ⟨0, Nat.zero_le _, rfl, S4⟩
  case round =>
    obtain ⟨k, hk, rfl, HS⟩ := hrel
    have hum := HM.out k
    by_cases hlt : k < nl
    · have hlt' : (k : Int) < nl := by omega
      have i1 : k < n.ks.length := by have := HNL.out; omega
      have i2 : k < n.cs.length := by have := HCL.out; omega
      have i3 : k < (items n).length := by have := HIL.out; omega
      obtain ⟨b, o, rfl, hbl, x0⟩ := HK.out k i1
      have y0 := HS.out.cell hbl x0
      obtain ⟨b2, o2, rfl, hbl2, z0, z1, z2⟩ := HC.out k i2
      have HNx := HN.out k i3
      rw [HG.out k i3 i1 i2] at HNx
      have hsl := HSh.out k i1
      have HCe := hid (cellof_any n.cs[k] (HOC.out k i2))
      have hcm := encC_most (HOC.out k i2)
      unfold kB at HNx
      have HNX := hid HNx
      generalize n.ks[k] = key at *
      generalize n.cs[k] = cell at *
      clear i1 i2 i3
      have hkz := bs_size key
      have hvk := Num.varB_le key.length
      have hku : IntKind.u64.wrap ((bs key).size : Int) = ((key.length : Nat) : Int) := by rw [hkz]; exact u64_id (by omega)
      have HV := hid (var_b key.length (by omega))
      clear x0 HNx c0 c1 c2 c3
      go_wp2_with fail
      refine (HV.out _).mono ?_
      rintro e w7 ⟨rfl, hb⟩
      have S5 := hid (HS.out.on hb)
      clear hb y0
      go_wp2_with fail
      refine (S5.out.put (varB key.length) (by omega) (by omega)).mono ?_
      rintro e w8 ⟨rfl, hs⟩
      have S6 := hid hs
      clear hs
      go_wp2_with fail
      refine (S6.out.put key (by rw [List.length_append]; omega) (by omega)).mono ?_
      rintro e w9 ⟨rfl, hs⟩
      have S7 := hid hs
      obtain ⟨c0, c1, c2, c3⟩ := S7.out.cells
      have q0 := S7.out.cell hbl2 z0
      have q1 := S7.out.cell hbl2 z1
      have q2 := S7.out.cell hbl2 z2
      clear hs z0 z1 z2
      go_wp2_with fail
      refine (HCe.out _).mono ?_
      rintro e w10 ⟨rfl, hb⟩
      have S8 := hid (S7.out.on hb)
      clear hb c0 c1 c2 c3 q0 q1 q2
      go_wp2_with fail
      refine (S8.out.put (encC cell) (by simp only [List.length_append]; omega) (by omega)).mono ?_
      rintro e w11 ⟨rfl, hs⟩
      have S9 := hid hs
      clear hs
      go_wp2
      go_roundw
      case rel => exact ⟨k + 1, by omega, by go_num, hid (by rw [HNX.out]; simpa only [List.append_assoc] using S9.out)⟩
      case measure => simp [intOf]; omega
    · have hlt' : ¬ (k : Int) < nl := by omega
      have HT := HA.out k (by have := HIL.out; omega)
      rw [HT] at HS
      clear c0 c1 c2 c3 HT
      go_wp2_with fail
      refine HS.out.fin.mono ?_
      rintro e w7 ⟨rfl, hb⟩
      have HB := hid hb
      clear hb
      go_wp2
      go_ret
      exact ⟨rfl, HB.out⟩
set_option maxRecDepth 100000 in
set_option maxHeartbeats 4000000 in
theorem bytesof_inner (kv cv pv : Value) (n : N) (hf : n.f = false) (hok : okN n = true) (hl : n.ks.length ≤ 1000) (w : World) (h : NAt w kv cv pv n) :
    Calls Tryz.prog 129 #[nV false kv cv pv] w fun e w' => e = .returned (.string (bs (encN n))) ∧ Below w.heap.size w w' := by
  obtain ⟨h1, h2, h3⟩ := okN_ways hok
  have h3' : n.ps.length = n.ks.length + 1 ∧ n.ps.all okP = true := by
    rcases h3 with ⟨hf', _⟩ | ⟨-, -, hc, -, hcs, -⟩
    · rw [hf] at hf'; cases hf'
    · exact ⟨hc, hcs⟩
  obtain ⟨hc, hcs⟩ := h3'
  clear h3
  obtain ⟨il, ig⟩ := items_inner hf hc
  obtain ⟨ao, cap, rfl, -, -, hat⟩ := SAt.ways1 h.k
  obtain ⟨ao2, cap2, rfl, -, -, hat2⟩ := IAt.ways1 h.p
  have HK := hid hat
  have HC := hid hat2
  have HSh := hid (short_at h1)
  have HOC := hid (okP_at hcs)
  have HN := hid (fun k (h : k < (items n).length) => upto_next h)
  have HG := hid ig
  have HM := hid (upto_most hok hl)
  have HA := hid (fun k (h : (items n).length ≤ k) => upto_all (n := n) h)
  have HH : Hid (headB n = ([2] : Bs) ++ (fixF 2 n.ks.length ++ fixF 4 (n.ps[0]'(by omega)).toNat)) := hid (by unfold headB; rw [hf, List.headD_eq_head?_getD, List.head?_eq_getElem?, List.getElem?_eq_getElem (by omega : 0 < n.ps.length)]; rfl)
  have hu0 : IntKind.u64.wrap (n.ks.length : Int) = (n.ks.length : Int) := u64_id (by omega)
  have HF2 := hid (fixed_w n.ks.length 2 (by omega) (by decide) (by decide))
  rw [hc]
  have S0 := hid (Bst.start false (.slice ao n.ks.length cap) cv (.slice ao2 (n.ks.length + 1) cap2) w)
  clear h hat hat2 hok h1 h2 hcs ig
  obtain ⟨nl, hnl⟩ : ∃ x, n.ks.length = x := ⟨_, rfl⟩
  have i0 : 0 < n.ps.length := by omega
  rw [hnl] at HF2 S0 HH hu0 il hl hc ⊢
  have HNL := hid hnl
  have HIL := hid il
  have HCL := hid hc
  clear hnl il hc hf
  unfold nV
  go_enter Tryz.func129, Tryz.ntmps129
  go_wp2_with fail
  refine (fixed_2 _).mono ?_
  rintro e w3 ⟨rfl, hb⟩
  have S1 := hid (S0.out.on hb)
  clear hb
  go_wp2_with fail
  refine (S1.out.put [2] (by decide) (by decide)).mono ?_
  rintro e w4 ⟨rfl, hs⟩
  have S2 := hid hs
  obtain ⟨c0, c1, c2, c3⟩ := S2.out.cells
  clear hs
  go_wp2_with fail
  refine (HF2.out _).mono ?_
  rintro e w5 ⟨rfl, hb⟩
  have S3 := hid (S2.out.on hb)
  clear hb c0 c1 c2 c3
  go_wp2_with fail
  refine (S3.out.put (fixF 2 nl) (by decide) (by rw [Num.fixF_length]; decide)).mono ?_
  rintro e w6 ⟨rfl, hs⟩
  have S3b := hid hs
  obtain ⟨c0, c1, c2, c3⟩ := S3b.out.cells
  clear hs
  obtain ⟨b0, o0, rfl, hbl0, x00⟩ := HC.out 0 i0
  rw [Nat.add_zero] at x00
  have x01 := S3b.out.cell hbl0 x00
  obtain ⟨hp1, hp2⟩ := HOC.out 0 i0
  have HP0 := hid (pageof_any n.ps[0] hp1 hp2)
  generalize n.ps[0] = p0 at *
  clear x00 hp1 hp2 i0
  go_wp2_with fail
  refine (HP0.out _).mono ?_
  rintro e w6b ⟨rfl, hb⟩
  have S3c := hid (S3b.out.on hb)
  clear hb c0 c1 c2 c3 x01
  go_wp2_with fail
  refine (S3c.out.put (fixF 4 p0.toNat) (by simp [Num.fixF_length]) (by rw [Num.fixF_length]; decide)).mono ?_
  rintro e w6c ⟨rfl, hs⟩
  have S4 : Hid (Bst w false (.slice ao nl cap) cv (.slice (some ⟨b0, o0, none⟩) (nl + 1) cap2) (upto n 0) w6c) := hid (by unfold upto; rw [List.take_zero, HH.out]; simpa using hs)
  obtain ⟨c0, c1, c2, c3⟩ := S4.out.cells
  clear hs
  go_wp2
  go_loopw [30] (fun i wr => ∃ k : Nat, k ≤ nl ∧ i = .int .i64 k ∧ Hid (Bst w false (.slice ao nl cap) cv (.slice (some ⟨b0, o0, none⟩) (nl + 1) cap2) (upto n k) wr)) (fun i _ => nl - (intOf i).toNat)
  case atStart => exact ⟨0, Nat.zero_le _, rfl, S4⟩
  case round =>
    obtain ⟨k, hk, rfl, HS⟩ := hrel
    have hum := HM.out k
    by_cases hlt : k < nl
    · have hlt' : (k : Int) < nl := by omega
      have i1 : k < n.ks.length := by have := HNL.out; omega
      have i2 : k + 1 < n.ps.length := by have := HCL.out; omega
      have i3 : k < (items n).length := by have := HIL.out; omega
      obtain ⟨b, o, rfl, hbl, x0⟩ := HK.out k i1
      have y0 := HS.out.cell hbl x0
      obtain ⟨b2, o2, eb, hbl2, z0⟩ := HC.out (k + 1) i2
      cases eb
      have HNx := HN.out k i3
      rw [HG.out k i3 i1 i2] at HNx
      have hsl := HSh.out k i1
      have HCe := hid (pageof_any n.ps[k + 1] (HOC.out (k + 1) i2).1 (HOC.out (k + 1) i2).2)
      unfold kB at HNx
      have HNX := hid HNx
      generalize n.ks[k] = key at *
      generalize n.ps[k + 1] = cell at *
      clear i1 i2 i3
      have hkz := bs_size key
      have hvk := Num.varB_le key.length
      have hku : IntKind.u64.wrap ((bs key).size : Int) = ((key.length : Nat) : Int) := by rw [hkz]; exact u64_id (by omega)
      have HV := hid (var_b key.length (by omega))
      clear x0 HNx c0 c1 c2 c3
      go_wp2_with fail
      refine (HV.out _).mono ?_
      rintro e w7 ⟨rfl, hb⟩
      have S5 := hid (HS.out.on hb)
      clear hb y0
      go_wp2_with fail
      refine (S5.out.put (varB key.length) (by omega) (by omega)).mono ?_
      rintro e w8 ⟨rfl, hs⟩
      have S6 := hid hs
      clear hs
      go_wp2_with fail
      refine (S6.out.put key (by rw [List.length_append]; omega) (by omega)).mono ?_
      rintro e w9 ⟨rfl, hs⟩
      have S7 := hid hs
      obtain ⟨c0, c1, c2, c3⟩ := S7.out.cells
      have q0 := S7.out.cell hbl2 z0
      clear hs z0
      go_wp2_with fail
      refine (HCe.out _).mono ?_
      rintro e w10 ⟨rfl, hb⟩
      have S8 := hid (S7.out.on hb)
      clear hb c0 c1 c2 c3 q0
      go_wp2_with fail
      refine (S8.out.put (fixF 4 cell.toNat) (by simp only [List.length_append]; omega) (by rw [Num.fixF_length]; decide)).mono ?_
      rintro e w11 ⟨rfl, hs⟩
      have S9 := hid hs
      clear hs
      go_wp2
      go_roundw
      case rel => exact ⟨k + 1, by omega, by go_num, hid (by rw [HNX.out]; simpa only [List.append_assoc] using S9.out)⟩
      case measure => simp [intOf]; omega
    · have hlt' : ¬ (k : Int) < nl := by omega
      have HT := HA.out k (by have := HIL.out; omega)
      rw [HT] at HS
      clear c0 c1 c2 c3 HT
      go_wp2_with fail
      refine HS.out.fin.mono ?_
      rintro e w7 ⟨rfl, hb⟩
      have HB := hid hb
      clear hb
      go_wp2
      go_ret
      exact ⟨rfl, HB.out⟩
theorem bytesof_any (kv cv pv : Value) (n : N) (hok : okN n = true) (hl : n.ks.length ≤ 1000) (w : World) (h : NAt w kv cv pv n) :
    Calls Tryz.prog 129 #[nV n.f kv cv pv] w fun e w' => e = .returned (.string (bs (encN n))) ∧ Below w.heap.size w w' := by
  cases hf : n.f with
  | true => exact bytesof_leaf kv cv pv n hf hok hl w h
  | false => exact bytesof_inner kv cv pv n hf hok hl w h
/-- What node functions are asked of. -/
structure Fit (n : N) : Prop where
  k : n.ks.length ≤ 1000
  p : n.ps.length ≤ 1000
theorem encN_most {n : N} (h : okN n = true) (hl : n.ks.length ≤ 1000) : (encN n).length ≤ 140000 := by
  have := upto_most h hl (items n).length
  rwa [upto_all (Nat.le_refl _)] at this
set_option maxRecDepth 100000 in
set_option maxHeartbeats 1000000 in
theorem size_any (kv cv pv : Value) (n : N) (hl : Fit n) (w : World) (h : NAt w kv cv pv n) :
    Calls Tryz.prog 94 #[nV n.f kv cv pv] w fun e w' => e = .returned (.int .i64 (sizeN n : Nat)) ∧ Below w.heap.size w w' := by
  have B1 := hid ((Below.refl w.heap.size w).alloc (Nat.le_refl _) (nObj n.f kv cv pv))
  have N1 := hid (Nb.new n.f kv cv pv w)
  have HA1 := hid (h.on ((Below.refl w.heap.size w).alloc (Nat.le_refl _) (nObj n.f kv cv pv)))
  have HG := hid (fun w h => good_any kv cv pv n (by have := hl.p; omega) (by have := hl.k; omega) w h)
  have HB := hid (fun ho w h => bytesof_any kv cv pv n ho hl.k w h)
  have hz := bs_size (encN n)
  unfold sizeN
  unfold nV at *
  generalize n.f = f at *
  cases ho : okN n with
  | false =>
    rw [ho] at HG
    rw [if_neg (by decide)]
    clear h hl ho HB hz
    go_enter Tryz.func94, Tryz.ntmps94
    go_wp2_with fail
    refine (HG.out _ HA1.out).mono ?_
    rintro e w3 ⟨rfl, hb⟩
    have B2 := hid (B1.out.trans (hb.mono B1.out.size))
    clear hb
    go_wp2
    go_ret
    exact ⟨rfl, B2.out⟩
  | true =>
    rw [ho] at HG
    have HBB := hid (HB.out ho)
    rw [if_pos rfl]
    clear h hl ho HB
    generalize encN n = E at *
    go_enter Tryz.func94, Tryz.ntmps94
    go_wp2_with fail
    refine (HG.out _ HA1.out).mono ?_
    rintro e w3 ⟨rfl, hb⟩
    have B2 := hid (B1.out.trans (hb.mono B1.out.size))
    have N2 := hid (N1.out.on hb)
    have HA2 := hid (HA1.out.on hb)
    obtain ⟨c0, c1, c2, c3⟩ := N2.out.cells
    clear hb
    go_wp2_with fail
    refine (HBB.out _ HA2.out).mono ?_
    rintro e w4 ⟨rfl, hb⟩
    have B3 := hid (B2.out.trans (hb.mono B2.out.size))
    clear hb c0 c1 c2 c3
    go_wp2
    go_ret
    exact ⟨by rw [← hz]; rfl, B3.out⟩
def sV2 (x : Sr) : Value := .tuple #[.string (bs x.s), .int .i64 x.e]
theorem encR_bad {n : N} (h : okN n = false) : encR n = ⟨[], 1⟩ := by unfold encR; rw [h]; rfl
theorem encR_long {n : N} (h : okN n = true) (h2 : 232 < (encN n).length) : encR n = ⟨[], 47⟩ := by unfold encR; rw [if_pos h, if_pos h2]
theorem encR_good {n : N} (h : okN n = true) (h2 : ¬ 232 < (encN n).length) : encR n = ⟨page n, 0⟩ := by unfold encR; rw [if_pos h, if_neg h2]
set_option maxRecDepth 100000 in
set_option maxHeartbeats 1000000 in
theorem encode_any (kv cv pv : Value) (n : N) (hl : Fit n) (w : World) (h : NAt w kv cv pv n) :
    Calls Tryz.prog 130 #[nV n.f kv cv pv] w fun e w' => e = .returned (sV2 (encR n)) ∧ Below w.heap.size w w' := by
  have B1 := hid ((Below.refl w.heap.size w).alloc (Nat.le_refl _) (nObj n.f kv cv pv))
  have N1 := hid (Nb.new n.f kv cv pv w)
  have HA1 := hid (h.on ((Below.refl w.heap.size w).alloc (Nat.le_refl _) (nObj n.f kv cv pv)))
  have HG := hid (fun w h => good_any kv cv pv n (by have := hl.p; omega) (by have := hl.k; omega) w h)
  have HB := hid (fun ho w h => bytesof_any kv cv pv n ho hl.k w h)
  have hz := bs_size (encN n)
  unfold sV2
  cases ho : okN n with
  | false =>
    rw [ho] at HG
    rw [encR_bad ho]
    unfold nV at *
    generalize n.f = f at *
    clear h hl ho HB hz
    go_enter Tryz.func130, Tryz.ntmps130
    go_wp2_with fail
    refine (HG.out _ HA1.out).mono ?_
    rintro e w3 ⟨rfl, hb⟩
    have B2 := hid (B1.out.trans (hb.mono B1.out.size))
    clear hb
    go_wp2
    go_ret2
    exact ⟨rfl, B2.out⟩
  | true =>
    rw [ho] at HG
    have HBB := hid (HB.out ho)
    have hm := encN_most ho hl.k
    by_cases h2 : 232 < (encN n).length
    · rw [encR_long ho h2]
      have h2' : (232 : Int) < (bs (encN n)).size := by omega
      unfold nV at *
      generalize n.f = f at *
      clear h hl ho HB hm h2 hz
      generalize encN n = E at *
      go_enter Tryz.func130, Tryz.ntmps130
      go_wp2_with fail
      refine (HG.out _ HA1.out).mono ?_
      rintro e w3 ⟨rfl, hb⟩
      have B2 := hid (B1.out.trans (hb.mono B1.out.size))
      have N2 := hid (N1.out.on hb)
      have HA2 := hid (HA1.out.on hb)
      obtain ⟨c0, c1, c2, c3⟩ := N2.out.cells
      clear hb
      go_wp2_with fail
      refine (HBB.out _ HA2.out).mono ?_
      rintro e w4 ⟨rfl, hb⟩
      have B3 := hid (B2.out.trans (hb.mono B2.out.size))
      clear hb c0 c1 c2 c3
      go_wp2
      go_ret2
      exact ⟨rfl, B3.out⟩
    · rw [encR_good ho h2]
      have h2' : ¬ (232 : Int) < (bs (encN n)).size := by omega
      have HR := hid (repeat_any (232 - (encN n).length) (by omega))
      have ec : (((232 - (encN n).length : Nat)) : Int) = 232 - ((bs (encN n)).size : Int) := by omega
      rw [ec] at HR
      have hno : ¬ 9223372036854775807 < (bs (encN n)).size + (bs (zeros (232 - (encN n).length))).size := by rw [bs_size, bs_size]; unfold zeros; rw [List.length_replicate]; omega
      have HX := hid (bs_append (encN n) (zeros (232 - (encN n).length)))
      unfold page
      unfold nV at *
      generalize n.f = f at *
      clear h hl ho HB hm h2 hz ec
      generalize zeros (232 - (encN n).length) = Z at *
      generalize encN n = E at *
      go_enter Tryz.func130, Tryz.ntmps130
      go_wp2_with fail
      refine (HG.out _ HA1.out).mono ?_
      rintro e w3 ⟨rfl, hb⟩
      have B2 := hid (B1.out.trans (hb.mono B1.out.size))
      have N2 := hid (N1.out.on hb)
      have HA2 := hid (HA1.out.on hb)
      obtain ⟨c0, c1, c2, c3⟩ := N2.out.cells
      clear hb
      go_wp2_with fail
      refine (HBB.out _ HA2.out).mono ?_
      rintro e w4 ⟨rfl, hb⟩
      have B3 := hid (B2.out.trans (hb.mono B2.out.size))
      clear hb c0 c1 c2 c3
      go_wp2_with fail
      refine (HR.out _).mono ?_
      rintro e w5 ⟨rfl, hb⟩
      have B4 := hid (B3.out.trans (hb.mono B3.out.size))
      clear hb
      go_wp2
      go_ret2
      exact ⟨by rw [← HX.out]; rfl, B4.out⟩
end No
end Go.Proofs.YtoifhcmgeackdaaGreatDoor
