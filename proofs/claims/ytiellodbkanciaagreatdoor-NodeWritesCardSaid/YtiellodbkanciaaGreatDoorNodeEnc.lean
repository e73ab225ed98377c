/-
  Contracts of the project's bytesOf, Size, Encode.
-/
import Derived.Test.YtiellodbkanciaaGreatDoorNodeBld
import Derived.Test.YtiellodbkanciaaGreatDoorNodeOk
import Derived.Test.YtiellodbkanciaaGreatDoorGrpNum
namespace Go.Proofs.YtiellodbkanciaaGreatDoor
open Go.RowKit
namespace No
open Num (hid varB fixF)
def upto (n : N) (k : Nat) : Bs := headB n ++ ((items n).take k).flatten
theorem upto_next {n : N} {k : Nat} (h : k < (items n).length) : upto n (k + 1) = upto n k ++ (items n)[k] := by
  unfold upto
  rw [List.take_succ_eq_append_getElem h, List.flatten_append, List.append_assoc]
  simp
theorem upto_all {n : N} {k : Nat} (h : (items n).length ≤ k) : upto n k = encN n := by unfold upto encN; rw [List.take_of_length_le h]
theorem okN_ways {n : N} (h : okN n = true) : n.ks.all short = true ∧ rise n.ks = true ∧ ((n.f = true ∧ n.cs.length = n.ks.length ∧ n.ps = [] ∧ n.cs.all okC = true) ∨ (n.f = false ∧ 0 < n.ks.length ∧ n.ps.length = n.ks.length + 1 ∧ n.cs = [] ∧ n.ps.all okP = true ∧ unlike n.ps = true)) := by
  unfold okN at h
  rw [Bool.and_eq_true, Bool.and_eq_true] at h
  obtain ⟨h1, h2, h3⟩ := h
  refine ⟨h1, h2, ?_⟩
  cases hf : n.f with
  | true =>
    rw [hf, if_pos rfl] at h3
    unfold okL at h3
    simp only [Bool.and_eq_true, decide_eq_true_eq] at h3
    exact Or.inl ⟨rfl, h3.1, List.length_eq_zero_iff.1 h3.2.1, h3.2.2⟩
  | false =>
    rw [hf, if_neg (by decide)] at h3
    unfold okI at h3
    simp only [Bool.and_eq_true, decide_eq_true_eq] at h3
    exact Or.inr ⟨rfl, h3.1, h3.2.1, List.length_eq_zero_iff.1 h3.2.2.1, h3.2.2.2.1, h3.2.2.2.2⟩
theorem short_at {l : List Bs} (h : l.all short = true) (k : Nat) (hk : k < l.length) : l[k].length ≤ 64 := by
  have := List.all_eq_true.1 h l[k] (List.getElem_mem hk)
  simpa [short] using this
theorem okC_at {l : List C} (h : l.all okC = true) (k : Nat) (hk : k < l.length) : okC l[k] = true := List.all_eq_true.1 h l[k] (List.getElem_mem hk)
theorem okP_at {l : List Int} (h : l.all okP = true) (k : Nat) (hk : k < l.length) : 1 ≤ l[k] ∧ l[k] < 4096 := by
  have := List.all_eq_true.1 h l[k] (List.getElem_mem hk)
  unfold okP at this
  simpa using this
theorem kB_most {k : Bs} (h : k.length ≤ 64) : (kB k).length ≤ 74 := by
  have := Num.varB_le k.length
  unfold kB
  rw [List.length_append]; omega
theorem encC_most {c : C} (h : okC c = true) : (encC c).length ≤ 50 := by
  have := Num.varB_le c.z.toNat
  obtain ⟨h1, h2, h3⟩ := okC_ways h
  unfold encC
  rw [List.length_append]
  rcases h3 with ⟨a, b, _⟩ | ⟨a, _⟩
  · rw [if_pos a]; omega
  · rw [if_neg (by omega), Num.fixF_length]; omega
theorem flat_most : ∀ (l : List Bs) (_ : ∀ x ∈ l, x.length ≤ 130), l.flatten.length ≤ l.length * 130
  | [], _ => Nat.zero_le _
  | a :: l, h => by
    have h1 := h a (by simp)
    have h2 := flat_most l (fun x hx => h x (by simp [hx]))
    rw [List.flatten_cons, List.length_append, List.length_cons]
    omega
theorem items_leaf {n : N} (hf : n.f = true) (hc : n.cs.length = n.ks.length) : (items n).length = n.ks.length ∧ ∀ k (h : k < (items n).length) (h1 : k < n.ks.length) (h2 : k < n.cs.length), (items n)[k] = kB n.ks[k] ++ encC n.cs[k] := by
  have e : items n = itsL n.ks n.cs := by unfold items; rw [hf]; rfl
  have hl : (items n).length = n.ks.length := by rw [e]; unfold itsL; rw [List.length_zipWith]; omega
  refine ⟨hl, fun k h h1 h2 => ?_⟩
  have : (itsL n.ks n.cs)[k]'(by rw [← e]; exact h) = kB n.ks[k] ++ encC n.cs[k] := by unfold itsL; rw [List.getElem_zipWith]
  rw [← this]
  congr 1
theorem items_inner {n : N} (hf : n.f = false) (hc : n.ps.length = n.ks.length + 1) : (items n).length = n.ks.length ∧ ∀ k (h : k < (items n).length) (h1 : k < n.ks.length) (h2 : k + 1 < n.ps.length), (items n)[k] = kB n.ks[k] ++ fixF 4 n.ps[k + 1].toNat := by
  have e : items n = itsI n.ks n.ps.tail := by unfold items; rw [hf]; rfl
  have hl : (items n).length = n.ks.length := by rw [e]; unfold itsI; rw [List.length_zipWith, List.length_tail]; omega
  refine ⟨hl, fun k h h1 h2 => ?_⟩
  have : (itsI n.ks n.ps.tail)[k]'(by rw [← e]; exact h) = kB n.ks[k] ++ fixF 4 n.ps[k + 1].toNat := by unfold itsI; rw [List.getElem_zipWith, List.getElem_tail]
  rw [← this]
  congr 1
theorem upto_most {n : N} (h : okN n = true) (hl : n.ks.length ≤ 1000) (k : Nat) : (upto n k).length ≤ 140000 := by
  obtain ⟨h1, h2, h3⟩ := okN_ways h
  have hh : (headB n).length ≤ 7 := by
    unfold headB
    simp only [List.length_append, Num.fixF_length]
    split <;> simp [Num.fixF_length]
  have hi : ∀ x ∈ (items n).take k, x.length ≤ 130 := by
    intro x hx
    obtain ⟨j, hj, rfl⟩ := List.getElem_of_mem (List.mem_of_mem_take hx)
    rcases h3 with ⟨a, b, c, d⟩ | ⟨a, b, c, d, e, _⟩
    · obtain ⟨il, ig⟩ := items_leaf a b
      rw [ig j hj (by omega) (by omega), List.length_append]
      have q1 := kB_most (short_at h1 j (by omega))
      have q2 := encC_most (okC_at d j (by omega))
      omega
    · obtain ⟨il, ig⟩ := items_inner a c
      rw [ig j hj (by omega) (by omega), List.length_append, Num.fixF_length]
      have q1 := kB_most (short_at h1 j (by omega))
      omega
  have hf := flat_most _ hi
  have hn : ((items n).take k).length ≤ 1000 := by
    rw [List.length_take]
    rcases h3 with ⟨a, b, c, d⟩ | ⟨a, b, c, d, e, _⟩
    · rw [(items_leaf a b).1]; omega
    · rw [(items_inner a c).1]; omega
  unfold upto
  rw [List.length_append]
  omega
/-! ### Small pieces -/
theorem fixed_w (n : Nat) (k : Nat) (hn : n < 18446744073709551616) (hk : 1 ≤ k) (hk8 : k ≤ 8) (w : World) : Calls Tryz.prog 86 #[.int .u64 (n : Nat), .int .i64 (k : Nat)] w fun e w' => e = .returned (.string (bs (fixF k n))) ∧ Below w.heap.size w w' := by
  have h := Num.fixed_any n hn k w
  have e : Num.clampW (k : Int) = k := by unfold Num.clampW; rw [if_neg (by omega), if_neg (by omega)]; rfl
  rw [e] at h
  exact h
theorem fixed_1 (w : World) : Calls Tryz.prog 86 #[.int .u64 1, .int .i64 1] w fun e w' => e = .returned (.string (bs [1])) ∧ Below w.heap.size w w' := fixed_w 1 1 (by decide) (by decide) (by decide) w
theorem fixed_2 (w : World) : Calls Tryz.prog 86 #[.int .u64 2, .int .i64 1] w fun e w' => e = .returned (.string (bs [2])) ∧ Below w.heap.size w w' := fixed_w 2 1 (by decide) (by decide) (by decide) w
theorem var_b (n : Nat) (hn : n < 18446744073709551616) (w : World) : Calls Tryz.prog 60 #[.int .u64 n] w fun e w' => e = .returned (.string (bs (varB n))) ∧ Below w.heap.size w w' := Num.var_any n hn w
theorem u64_id {n : Nat} (h : n < 18446744073709551616) : IntKind.u64.wrap (n : Int) = (n : Int) := by rw [Num.wrap_u]; omega
theorem pageof_any (p : Int) (h0 : 1 ≤ p) (h1 : p < 4096) (w : World) : Calls Tryz.prog 87 #[.int .i64 p] w fun e w' => e = .returned (.string (bs (fixF 4 p.toNat))) ∧ Below w.heap.size w w' := by
  obtain ⟨q, rfl⟩ := Int.eq_ofNat_of_zero_le (show 0 ≤ p by omega)
  rw [show ((q : Int)).toNat = q from rfl]
  have hw : IntKind.u64.wrap (q : Int) = (q : Int) := u64_id (by omega)
  have HF := hid (fixed_w q 4 (by omega) (by decide) (by decide))
  clear h0 h1
  go_enter Tryz.func87, Tryz.ntmps87
  go_wp2_with fail
  refine (HF.out _).mono ?_
  rintro e w' ⟨rfl, hb⟩
  have HB := hid hb
  clear hb
  go_wp2
  go_ret
  exact ⟨rfl, HB.out⟩
set_option maxRecDepth 100000 in
set_option maxHeartbeats 1000000 in
theorem cellof_any (c : C) (h : okC c = true) (w : World) : Calls Tryz.prog 88 #[c.agg] w fun e w' => e = .returned (.string (bs (encC c))) ∧ Below w.heap.size w w' := by
  obtain ⟨h0, h5, hw⟩ := okC_ways h
  obtain ⟨z, d, p⟩ := c
  simp only at h0 h5 hw
  obtain ⟨m, rfl⟩ := Int.eq_ofNat_of_zero_le h0
  have B1 := hid ((Below.refl w.heap.size w).alloc (Nat.le_refl _) (.cells #[.int .i64 (m : Int), .string (bs d), .int .i64 p] tC))
  have N1 := hid (Cb.new ⟨m, d, p⟩ w)
  have hu : IntKind.u64.wrap (m : Int) = (m : Int) := u64_id (by omega)
  have HV := hid (var_b m (by omega))
  have hvl := Num.varB_le m
  unfold encC C.agg
  simp only
  rw [show ((m : Int)).toNat = m from rfl]
  rcases hw with ⟨h3, h4, h6⟩ | ⟨h3, h4, h6, h7⟩
  · rw [if_pos h3]
    have HI := hid (isinline_any (m : Int))
    rw [decide_eq_true h3] at HI
    have hno : ¬ 9223372036854775807 < (bs (varB m)).size + (bs d).size := by rw [bs_size, bs_size]; omega
    have HX := hid (bs_append (varB m) d)
    clear h h0 h5 h3 h4 h6 hvl
    go_enter Tryz.func88, Tryz.ntmps88
    go_wp2_with fail
    refine (HV.out _).mono ?_
    rintro e w3 ⟨rfl, hb⟩
    have N2 := hid (N1.out.on hb)
    have B2 := hid (B1.out.trans (hb.mono B1.out.size))
    obtain ⟨c0, c1, c2⟩ := N2.out.cells
    clear hb
    simp only at c0 c1 c2
    go_wp2_with fail
    refine (HI.out _).mono ?_
    rintro e w4 ⟨rfl, rfl⟩
    go_wp2
    go_ret
    exact ⟨rfl, B2.out⟩
  · rw [if_neg (by omega)]
    have HI := hid (isinline_any (m : Int))
    rw [decide_eq_false (by omega)] at HI
    have hno : ¬ 9223372036854775807 < (bs (varB m)).size + (bs (fixF 4 p.toNat)).size := by rw [bs_size, bs_size, Num.fixF_length]; omega
    have HX := hid (bs_append (varB m) (fixF 4 p.toNat))
    have HP := hid (pageof_any p h6 h7)
    clear h h0 h5 h3 h4 h6 h7 hvl
    go_enter Tryz.func88, Tryz.ntmps88
    go_wp2_with fail
    refine (HV.out _).mono ?_
    rintro e w3 ⟨rfl, hb⟩
    have N2 := hid (N1.out.on hb)
    have B2 := hid (B1.out.trans (hb.mono B1.out.size))
    obtain ⟨c0, c1, c2⟩ := N2.out.cells
    clear hb
    simp only at c0 c1 c2
    go_wp2_with fail
    refine (HI.out _).mono ?_
    rintro e w4 ⟨rfl, rfl⟩
    go_wp2_with fail
    refine (HP.out _).mono ?_
    rintro e w5 ⟨rfl, hb⟩
    have B3 := hid (B2.out.trans (hb.mono B2.out.size))
    clear hb
    go_wp2
    go_ret
    exact ⟨rfl, B3.out⟩
abbrev nObj (f : Bool) (ks cs ps : Value) : Obj := .cells #[.bool f, ks, cs, ps] tN
abbrev bObj : Obj := .cells #[.pointer none, .slice none 0 0] tBld
theorem nb_at {w wr : World} {f : Bool} {ks cs ps : Value} (h : Below (w.heap.size + 1) (w.alloc (nObj f ks cs ps)) wr) : Nb w.heap.size f ks cs ps wr := (h.block _ (Nat.lt_succ_self _)).trans (Nb.new f ks cs ps w)
theorem bel_at {w wr : World} {f : Bool} {ks cs ps : Value} (h : Below (w.heap.size + 1) (w.alloc (nObj f ks cs ps)) wr) : Below w.heap.size w wr := ((Below.refl _ _).alloc (Nat.le_refl _) _).trans (h.mono (Nat.le_succ _))
theorem fb_fresh (f : Bool) (ks cs ps : Value) (w : World) : FB (w.heap.size + 1) [] ((w.alloc (nObj f ks cs ps)).alloc bObj) := by
  have h := FB.fresh (w.alloc (nObj f ks cs ps))
  have e : (w.alloc (nObj f ks cs ps)).heap.size = w.heap.size + 1 := by simp
  rw [e] at h
  exact h
theorem bel_fresh (f : Bool) (ks cs ps : Value) (w : World) : Below (w.heap.size + 1) (w.alloc (nObj f ks cs ps)) ((w.alloc (nObj f ks cs ps)).alloc bObj) := (Below.refl _ _).alloc (by simp) _
/-- What the walk carries: the builder's bytes, the node's box. -/
structure Bst (w : World) (f : Bool) (ks cs ps : Value) (l : Bs) (wr : World) : Prop where
  fb : FB (w.heap.size + 1) l wr
  be : Below (w.heap.size + 1) (w.alloc (nObj f ks cs ps)) wr
  lt : w.heap.size + 1 < wr.heap.size
theorem Bst.start (f : Bool) (ks cs ps : Value) (w : World) : Bst w f ks cs ps [] ((w.alloc (nObj f ks cs ps)).alloc bObj) := ⟨fb_fresh f ks cs ps w, bel_fresh f ks cs ps w, by simp⟩
theorem Bst.on {w : World} {f : Bool} {ks cs ps : Value} {l : Bs} {wr w' : World} (h : Bst w f ks cs ps l wr) (hb : Below wr.heap.size wr w') : Bst w f ks cs ps l w' := ⟨h.fb.on hb, h.be.trans (hb.mono (Nat.le_of_lt h.lt)), Nat.lt_of_lt_of_le h.lt hb.size⟩
/-- WriteString. -/
theorem Bst.put {w : World} {f : Bool} {ks cs ps : Value} {l : Bs} {wr : World} (h : Bst w f ks cs ps l wr) (x : Bs) (hl : l.length ≤ 1000000) (hx : x.length ≤ 1000000) :
    Calls Tryz.prog 59 #[.pointer (some ⟨w.heap.size + 1, 0, none⟩), .string (bs x)] wr fun e w' => e = .returned (.tuple #[.int .i64 (bs x).size, .nilIface]) ∧ Bst w f ks cs ps (l ++ x) w' := by
  refine (fstr_any (w.heap.size + 1) l x wr h.fb (by omega) (Nat.le_of_lt h.lt)).mono ?_
  rintro e w' ⟨rfl, h1, h2, -⟩
  exact ⟨rfl, h1, h.be.trans h2, Nat.lt_of_lt_of_le h.lt h2.size⟩
theorem Bst.fin {w : World} {f : Bool} {ks cs ps : Value} {l : Bs} {wr : World} (h : Bst w f ks cs ps l wr) :
    Calls Tryz.prog 63 #[.pointer (some ⟨w.heap.size + 1, 0, none⟩)] wr fun e w' => e = .returned (.string (bs l)) ∧ Below w.heap.size w w' := by
  refine (fend_any (w.heap.size + 1) l wr h.fb (Nat.le_of_lt h.lt)).mono ?_
  rintro e w' ⟨rfl, h1⟩
  exact ⟨rfl, (bel_at h.be).trans (h1.mono (Nat.le_succ _))⟩
theorem Bst.cells {w : World} {f : Bool} {ks cs ps : Value} {l : Bs} {wr : World} (h : Bst w f ks cs ps l wr) : wr.cell? ⟨w.heap.size, 0, none⟩ = some (.bool f) ∧ wr.cell? ⟨w.heap.size, 1, none⟩ = some ks ∧ wr.cell? ⟨w.heap.size, 2, none⟩ = some cs ∧ wr.cell? ⟨w.heap.size, 3, none⟩ = some ps := (nb_at h.be).cells
theorem Bst.cell {w : World} {f : Bool} {ks cs ps : Value} {l : Bs} {wr : World} (h : Bst w f ks cs ps l wr) {b o : Nat} {v : Value} (hb : b < w.heap.size) (hc : w.cell? ⟨b, o, none⟩ = some v) : wr.cell? ⟨b, o, none⟩ = some v := ((bel_at h.be).cell (p := ⟨b, o, none⟩) hb).trans hc
set_option maxRecDepth 100000 in
set_option maxHeartbeats 4000000 in
theorem bytesof_leaf (kv cv pv : Value) (n : N) (hf : n.f = true) (hok : okN n = true) (hl : n.ks.length ≤ 1000) (w : World) (h : NAt w kv cv pv n) :
    Calls Tryz.prog 40 #[nV true kv cv pv] w fun e w' => e = .returned (.string (bs (encN n))) ∧ Below w.heap.size w w' := by
  obtain ⟨h1, h2, h3⟩ := okN_ways hok
  have h3' : n.cs.length = n.ks.length ∧ n.cs.all okC = true := by
    rcases h3 with ⟨-, hc, -, hcs⟩ | ⟨hf', _⟩
    · exact ⟨hc, hcs⟩
    · rw [hf] at hf'; cases hf'
  obtain ⟨hc, hcs⟩ := h3'
  clear h3
  obtain ⟨il, ig⟩ := items_leaf hf hc
  obtain ⟨ao, cap, rfl, -, -, hat⟩ := SAt.ways1 h.k
  obtain ⟨ao2, cap2, rfl, -, -, hat2⟩ := CAt.ways3 h.c
  have HK := hid hat
  have HC := hid hat2
  have HSh := hid (short_at h1)
  have HOC := hid (okC_at hcs)
  have HN := hid (fun k (h : k < (items n).length) => upto_next h)
  have HG := hid ig
  have HM := hid (upto_most hok hl)
  have HA := hid (fun k (h : (items n).length ≤ k) => upto_all (n := n) h)
  have HH : Hid (headB n = [1] ++ fixF 2 n.ks.length) := hid (by unfold headB; rw [hf]; simp)
  have hu0 : IntKind.u64.wrap (n.ks.length : Int) = (n.ks.length : Int) := u64_id (by omega)
  have HF2 := hid (fixed_w n.ks.length 2 (by omega) (by decide) (by decide))
  rw [hc]
  have S0 := hid (Bst.start true (.slice ao n.ks.length cap) (.slice ao2 n.ks.length cap2) pv w)
  clear h hat hat2 hok h1 h2 hcs ig
  obtain ⟨nl, hnl⟩ : ∃ x, n.ks.length = x := ⟨_, rfl⟩
  rw [hnl] at HF2 S0 HH hu0 il hl hc ⊢
  have HNL := hid hnl
  have HIL := hid il
  have HCL := hid hc
  clear hnl il hc hf
  unfold nV
  go_enter Tryz.func40, Tryz.ntmps40
  go_wp2_with fail
  refine (fixed_1 _).mono ?_
  rintro e w3 ⟨rfl, hb⟩
  have S1 := hid (S0.out.on hb)
  clear hb
  go_wp2_with fail
  refine (S1.out.put [1] (by decide) (by decide)).mono ?_
  rintro e w4 ⟨rfl, hs⟩
  have S2 := hid hs
  obtain ⟨c0, c1, c2, c3⟩ := S2.out.cells
  clear hs
  go_wp2_with fail
  refine (HF2.out _).mono ?_
  rintro e w5 ⟨rfl, hb⟩
  have S3 := hid (S2.out.on hb)
  clear hb c0 c1 c2 c3
  go_wp2_with fail
  refine (S3.out.put (fixF 2 nl) (by decide) (by rw [Num.fixF_length]; decide)).mono ?_
  rintro e w6 ⟨rfl, hs⟩
  have S4 : Hid (Bst w true (.slice ao nl cap) (.slice ao2 nl cap2) pv (upto n 0) w6) := hid (by unfold upto; rw [List.take_zero, HH.out]; simpa using hs)
  obtain ⟨c0, c1, c2, c3⟩ := S4.out.cells
  clear hs
  go_wp2
  go_loopw [30] (fun i wr => ∃ k : Nat, k ≤ nl ∧ i = .int .i64 k ∧ Hid (Bst w true (.slice ao nl cap) (.slice ao2 nl cap2) pv (upto n k) wr)) (fun i _ => nl - (intOf i).toNat)
  case atStart => exact ⟨0, Nat.zero_le _, rfl, S4⟩
  case round =>
    obtain ⟨k, hk, rfl, HS⟩ := hrel
    have hum := HM.out k
    by_cases hlt : k < nl
    · have hlt' : (k : Int) < nl := by omega
      have i1 : k < n.ks.length := by have := HNL.out; omega
      have i2 : k < n.cs.length := by have := HCL.out; omega
      have i3 : k < (items n).length := by have := HIL.out; omega
      obtain ⟨b, o, rfl, hbl, x0⟩ := HK.out k i1
      have y0 := HS.out.cell hbl x0
      obtain ⟨b2, o2, rfl, hbl2, z0, z1, z2⟩ := HC.out k i2
      have HNx := HN.out k i3
      rw [HG.out k i3 i1 i2] at HNx
      have hsl := HSh.out k i1
      have HCe := hid (cellof_any n.cs[k] (HOC.out k i2))
      have hcm := encC_most (HOC.out k i2)
      unfold kB at HNx
      have HNX := hid HNx
      generalize n.ks[k] = key at *
      generalize n.cs[k] = cell at *
      clear i1 i2 i3
      have hkz := bs_size key
      have hvk := Num.varB_le key.length
      have hku : IntKind.u64.wrap ((bs key).size : Int) = ((key.length : Nat) : Int) := by rw [hkz]; exact u64_id (by omega)
      have HV := hid (var_b key.length (by omega))
      clear x0 HNx c0 c1 c2 c3
      go_wp2_with fail
      refine (HV.out _).mono ?_
      rintro e w7 ⟨rfl, hb⟩
      have S5 := hid (HS.out.on hb)
      clear hb y0
      go_wp2_with fail
      refine (S5.out.put (varB key.length) (by omega) (by omega)).mono ?_
      rintro e w8 ⟨rfl, hs⟩
      have S6 := hid hs
      clear hs
      go_wp2_with fail
      refine (S6.out.put key (by rw [List.length_append]; omega) (by omega)).mono ?_
      rintro e w9 ⟨rfl, hs⟩
      have S7 := hid hs
      obtain ⟨c0, c1, c2, c3⟩ := S7.out.cells
      have q0 := S7.out.cell hbl2 z0
      have q1 := S7.out.cell hbl2 z1
      have q2 := S7.out.cell hbl2 z2
      clear hs z0 z1 z2
      go_wp2_with fail
      refine (HCe.out _).mono ?_
      rintro e w10 ⟨rfl, hb⟩
      have S8 := hid (S7.out.on hb)
      clear hb c0 c1 c2 c3 q0 q1 q2
      go_wp2_with fail
      refine (S8.out.put (encC cell) (by simp only [List.length_append]; omega) (by omega)).mono ?_
      rintro e w11 ⟨rfl, hs⟩
      have S9 := hid hs
      clear hs
      go_wp2
      go_roundw
      case rel => exact ⟨k + 1, by omega, by go_num, hid (by rw [HNX.out]; simpa only [List.append_assoc] using S9.out)⟩
      case measure => simp [intOf]; omega
    · have hlt' : ¬ (k : Int) < nl := by omega
      have HT := HA.out k (by have := HIL.out; omega)
      rw [HT] at HS
      clear c0 c1 c2 c3 HT
      go_wp2_with fail
      refine HS.out.fin.mono ?_
      rintro e w7 ⟨rfl, hb⟩
      have HB := hid hb
      clear hb
      go_wp2
      go_ret
      exact ⟨rfl, HB.out⟩
set_option maxRecDepth 100000 in
set_option maxHeartbeats 4000000 in
theorem bytesof_inner (kv cv pv : Value) (n : N) (hf : n.f = false) (hok : okN n = true) (hl : n.ks.length ≤ 1000) (w : World) (h : NAt w kv cv pv n) :
    Calls Tryz.prog 40 #[nV false kv cv pv] w fun e w' => e = .returned (.string (bs (encN n))) ∧ Below w.heap.size w w' := by
  obtain ⟨h1, h2, h3⟩ := okN_ways hok
  have h3' : n.ps.length = n.ks.length + 1 ∧ n.ps.all okP = true := by
    rcases h3 with ⟨hf', _⟩ | ⟨-, -, hc, -, hcs, -⟩
    · rw [hf] at hf'; cases hf'
    · exact ⟨hc, hcs⟩
  obtain ⟨hc, hcs⟩ := h3'
  clear h3
  obtain ⟨il, ig⟩ := items_inner hf hc
  obtain ⟨ao, cap, rfl, -, -, hat⟩ := SAt.ways1 h.k
  obtain ⟨ao2, cap2, rfl, -, -, hat2⟩ := IAt.ways1 h.p
  have HK := hid hat
  have HC := hid hat2
  have HSh := hid (short_at h1)
  have HOC := hid (okP_at hcs)
  have HN := hid (fun k (h : k < (items n).length) => upto_next h)
  have HG := hid ig
  have HM := hid (upto_most hok hl)
  have HA := hid (fun k (h : (items n).length ≤ k) => upto_all (n := n) h)
  have HH : Hid (headB n = ([2] : Bs) ++ (fixF 2 n.ks.length ++ fixF 4 (n.ps[0]'(by omega)).toNat)) := hid (by unfold headB; rw [hf, List.headD_eq_head?_getD, List.head?_eq_getElem?, List.getElem?_eq_getElem (by omega : 0 < n.ps.length)]; rfl)
  have hu0 : IntKind.u64.wrap (n.ks.length : Int) = (n.ks.length : Int) := u64_id (by omega)
  have HF2 := hid (fixed_w n.ks.length 2 (by omega) (by decide) (by decide))
  rw [hc]
  have S0 := hid (Bst.start false (.slice ao n.ks.length cap) cv (.slice ao2 (n.ks.length + 1) cap2) w)
  clear h hat hat2 hok h1 h2 hcs ig
  obtain ⟨nl, hnl⟩ : ∃ x, n.ks.length = x := ⟨_, rfl⟩
  have i0 : 0 < n.ps.length := by omega
  rw [hnl] at HF2 S0 HH hu0 il hl hc ⊢
  have HNL := hid hnl
  have HIL := hid il
  have HCL := hid hc
  clear hnl il hc hf
  unfold nV
  go_enter Tryz.func40, Tryz.ntmps40
  go_wp2_with fail
  refine (fixed_2 _).mono ?_
  rintro e w3 ⟨rfl, hb⟩
  have S1 := hid (S0.out.on hb)
  clear hb
  go_wp2_with fail
  refine (S1.out.put [2] (by decide) (by decide)).mono ?_
  rintro e w4 ⟨rfl, hs⟩
  have S2 := hid hs
  obtain ⟨c0, c1, c2, c3⟩ := S2.out.cells
  clear hs
  go_wp2_with fail
  refine (HF2.out _).mono ?_
  rintro e w5 ⟨rfl, hb⟩
  have S3 := hid (S2.out.on hb)
  clear hb c0 c1 c2 c3
  go_wp2_with fail
  refine (S3.out.put (fixF 2 nl) (by decide) (by rw [Num.fixF_length]; decide)).mono ?_
  rintro e w6 ⟨rfl, hs⟩
  have S3b := hid hs
  obtain ⟨c0, c1, c2, c3⟩ := S3b.out.cells
  clear hs
  obtain ⟨b0, o0, rfl, hbl0, x00⟩ := HC.out 0 i0
  rw [Nat.add_zero] at x00
  have x01 := S3b.out.cell hbl0 x00
  obtain ⟨hp1, hp2⟩ := HOC.out 0 i0
  have HP0 := hid (pageof_any n.ps[0] hp1 hp2)
  generalize n.ps[0] = p0 at *
  clear x00 hp1 hp2 i0
  go_wp2_with fail
  refine (HP0.out _).mono ?_
  rintro e w6b ⟨rfl, hb⟩
  have S3c := hid (S3b.out.on hb)
  clear hb c0 c1 c2 c3 x01
  go_wp2_with fail
  refine (S3c.out.put (fixF 4 p0.toNat) (by simp [Num.fixF_length]) (by rw [Num.fixF_length]; decide)).mono ?_
  rintro e w6c ⟨rfl, hs⟩
  have S4 : Hid (Bst w false (.slice ao nl cap) cv (.slice (some ⟨b0, o0, none⟩) (nl + 1) cap2) (upto n 0) w6c) := hid (by unfold upto; rw [List.take_zero, HH.out]; simpa using hs)
  obtain ⟨c0, c1, c2, c3⟩ := S4.out.cells
  clear hs
  go_wp2
  go_loopw [30] (fun i wr => ∃ k : Nat, k ≤ nl ∧ i = .int .i64 k ∧ Hid (Bst w false (.slice ao nl cap) cv (.slice (some ⟨b0, o0, none⟩) (nl + 1) cap2) (upto n k) wr)) (fun i _ => nl - (intOf i).toNat)
  case atStart => exact ⟨0, Nat.zero_le _, rfl, S4⟩
  case round =>
    obtain ⟨k, hk, rfl, HS⟩ := hrel
    have hum := HM.out k
    by_cases hlt : k < nl
    · have hlt' : (k : Int) < nl := by omega
      have i1 : k < n.ks.length := by have := HNL.out; omega
      have i2 : k + 1 < n.ps.length := by have := HCL.out; omega
      have i3 : k < (items n).length := by have := HIL.out; omega
      obtain ⟨b, o, rfl, hbl, x0⟩ := HK.out k i1
      have y0 := HS.out.cell hbl x0
      obtain ⟨b2, o2, eb, hbl2, z0⟩ := HC.out (k + 1) i2
      cases eb
      have HNx := HN.out k i3
      rw [HG.out k i3 i1 i2] at HNx
      have hsl := HSh.out k i1
      have HCe := hid (pageof_any n.ps[k + 1] (HOC.out (k + 1) i2).1 (HOC.out (k + 1) i2).2)
      unfold kB at HNx
      have HNX := hid HNx
      generalize n.ks[k] = key at *
      generalize n.ps[k + 1] = cell at *
      clear i1 i2 i3
      have hkz := bs_size key
      have hvk := Num.varB_le key.length
      have hku : IntKind.u64.wrap ((bs key).size : Int) = ((key.length : Nat) : Int) := by rw [hkz]; exact u64_id (by omega)
      have HV := hid (var_b key.length (by omega))
      clear x0 HNx c0 c1 c2 c3
      go_wp2_with fail
      refine (HV.out _).mono ?_
      rintro e w7 ⟨rfl, hb⟩
      have S5 := hid (HS.out.on hb)
      clear hb y0
      go_wp2_with fail
      refine (S5.out.put (varB key.length) (by omega) (by omega)).mono ?_
      rintro e w8 ⟨rfl, hs⟩
      have S6 := hid hs
      clear hs
      go_wp2_with fail
      refine (S6.out.put key (by rw [List.length_append]; omega) (by omega)).mono ?_
      rintro e w9 ⟨rfl, hs⟩
      have S7 := hid hs
      obtain ⟨c0, c1, c2, c3⟩ := S7.out.cells
      have q0 := S7.out.cell hbl2 z0
      clear hs z0
      go_wp2_with fail
      refine (HCe.out _).mono ?_
      rintro e w10 ⟨rfl, hb⟩
      have S8 := hid (S7.out.on hb)
      clear hb c0 c1 c2 c3 q0
      go_wp2_with fail
      refine (S8.out.put (fixF 4 cell.toNat) (by simp only [List.length_append]; omega) (by rw [Num.fixF_length]; decide)).mono ?_
      rintro e w11 ⟨rfl, hs⟩
      have S9 := hid hs
      clear hs
      go_wp2
      go_roundw
      case rel => exact ⟨k + 1, by omega, by go_num, hid (by rw [HNX.out]; simpa only [List.append_assoc] using S9.out)⟩
      case measure => simp [intOf]; omega
    · have hlt' : ¬ (k : Int) < nl := by omega
      have HT := HA.out k (by have := HIL.out; omega)
      rw [HT] at HS
      clear c0 c1 c2 c3 HT
      go_wp2_with fail
      refine HS.out.fin.mono ?_
      rintro e w7 ⟨rfl, hb⟩
      have HB := hid hb
      clear hb
      go_wp2
      go_ret
      exact ⟨rfl, HB.out⟩
theorem bytesof_any (kv cv pv : Value) (n : N) (hok : okN n = true) (hl : n.ks.length ≤ 1000) (w : World) (h : NAt w kv cv pv n) :
    Calls Tryz.prog 40 #[nV n.f kv cv pv] w fun e w' => e = .returned (.string (bs (encN n))) ∧ Below w.heap.size w w' := by
  cases hf : n.f with
  | true => exact bytesof_leaf kv cv pv n hf hok hl w h
  | false => exact bytesof_inner kv cv pv n hf hok hl w h
/-- What node functions are asked of. -/
structure Fit (n : N) : Prop where
  k : n.ks.length ≤ 1000
  p : n.ps.length ≤ 1000
theorem encN_most {n : N} (h : okN n = true) (hl : n.ks.length ≤ 1000) : (encN n).length ≤ 140000 := by
  have := upto_most h hl (items n).length
  rwa [upto_all (Nat.le_refl _)] at this
set_option maxRecDepth 100000 in
set_option maxHeartbeats 1000000 in
theorem size_any (kv cv pv : Value) (n : N) (hl : Fit n) (w : World) (h : NAt w kv cv pv n) :
    Calls Tryz.prog 18 #[nV n.f kv cv pv] w fun e w' => e = .returned (.int .i64 (sizeN n : Nat)) ∧ Below w.heap.size w w' := by
  have B1 := hid ((Below.refl w.heap.size w).alloc (Nat.le_refl _) (nObj n.f kv cv pv))
  have N1 := hid (Nb.new n.f kv cv pv w)
  have HA1 := hid (h.on ((Below.refl w.heap.size w).alloc (Nat.le_refl _) (nObj n.f kv cv pv)))
  have HG := hid (fun w h => good_any kv cv pv n (by have := hl.p; omega) (by have := hl.k; omega) w h)
  have HB := hid (fun ho w h => bytesof_any kv cv pv n ho hl.k w h)
  have hz := bs_size (encN n)
  unfold sizeN
  unfold nV at *
  generalize n.f = f at *
  cases ho : okN n with
  | false =>
    rw [ho] at HG
    rw [if_neg (by decide)]
    clear h hl ho HB hz
    go_enter Tryz.func18, Tryz.ntmps18
    go_wp2_with fail
    refine (HG.out _ HA1.out).mono ?_
    rintro e w3 ⟨rfl, hb⟩
    have B2 := hid (B1.out.trans (hb.mono B1.out.size))
    clear hb
    go_wp2
    go_ret
    exact ⟨rfl, B2.out⟩
  | true =>
    rw [ho] at HG
    have HBB := hid (HB.out ho)
    rw [if_pos rfl]
    clear h hl ho HB
    generalize encN n = E at *
    go_enter Tryz.func18, Tryz.ntmps18
    go_wp2_with fail
    refine (HG.out _ HA1.out).mono ?_
    rintro e w3 ⟨rfl, hb⟩
    have B2 := hid (B1.out.trans (hb.mono B1.out.size))
    have N2 := hid (N1.out.on hb)
    have HA2 := hid (HA1.out.on hb)
    obtain ⟨c0, c1, c2, c3⟩ := N2.out.cells
    clear hb
    go_wp2_with fail
    refine (HBB.out _ HA2.out).mono ?_
    rintro e w4 ⟨rfl, hb⟩
    have B3 := hid (B2.out.trans (hb.mono B2.out.size))
    clear hb c0 c1 c2 c3
    go_wp2
    go_ret
    exact ⟨by rw [← hz]; rfl, B3.out⟩
def sV2 (x : Sr) : Value := .tuple #[.string (bs x.s), .int .i64 x.e]
theorem encR_bad {n : N} (h : okN n = false) : encR n = ⟨[], 1⟩ := by unfold encR; rw [h]; rfl
theorem encR_long {n : N} (h : okN n = true) (h2 : 232 < (encN n).length) : encR n = ⟨[], 47⟩ := by unfold encR; rw [if_pos h, if_pos h2]
theorem encR_good {n : N} (h : okN n = true) (h2 : ¬ 232 < (encN n).length) : encR n = ⟨page n, 0⟩ := by unfold encR; rw [if_pos h, if_neg h2]
set_option maxRecDepth 100000 in
set_option maxHeartbeats 1000000 in
theorem encode_any (kv cv pv : Value) (n : N) (hl : Fit n) (w : World) (h : NAt w kv cv pv n) :
    Calls Tryz.prog 12 #[nV n.f kv cv pv] w fun e w' => e = .returned (sV2 (encR n)) ∧ Below w.heap.size w w' := by
  have B1 := hid ((Below.refl w.heap.size w).alloc (Nat.le_refl _) (nObj n.f kv cv pv))
  have N1 := hid (Nb.new n.f kv cv pv w)
  have HA1 := hid (h.on ((Below.refl w.heap.size w).alloc (Nat.le_refl _) (nObj n.f kv cv pv)))
  have HG := hid (fun w h => good_any kv cv pv n (by have := hl.p; omega) (by have := hl.k; omega) w h)
  have HB := hid (fun ho w h => bytesof_any kv cv pv n ho hl.k w h)
  have hz := bs_size (encN n)
  unfold sV2
  cases ho : okN n with
  | false =>
    rw [ho] at HG
    rw [encR_bad ho]
    unfold nV at *
    generalize n.f = f at *
    clear h hl ho HB hz
    go_enter Tryz.func12, Tryz.ntmps12
    go_wp2_with fail
    refine (HG.out _ HA1.out).mono ?_
    rintro e w3 ⟨rfl, hb⟩
    have B2 := hid (B1.out.trans (hb.mono B1.out.size))
    clear hb
    go_wp2
    go_ret2
    exact ⟨rfl, B2.out⟩
  | true =>
    rw [ho] at HG
    have HBB := hid (HB.out ho)
    have hm := encN_most ho hl.k
    by_cases h2 : 232 < (encN n).length
    · rw [encR_long ho h2]
      have h2' : (232 : Int) < (bs (encN n)).size := by omega
      unfold nV at *
      generalize n.f = f at *
      clear h hl ho HB hm h2 hz
      generalize encN n = E at *
      go_enter Tryz.func12, Tryz.ntmps12
      go_wp2_with fail
      refine (HG.out _ HA1.out).mono ?_
      rintro e w3 ⟨rfl, hb⟩
      have B2 := hid (B1.out.trans (hb.mono B1.out.size))
      have N2 := hid (N1.out.on hb)
      have HA2 := hid (HA1.out.on hb)
      obtain ⟨c0, c1, c2, c3⟩ := N2.out.cells
      clear hb
      go_wp2_with fail
      refine (HBB.out _ HA2.out).mono ?_
      rintro e w4 ⟨rfl, hb⟩
      have B3 := hid (B2.out.trans (hb.mono B2.out.size))
      clear hb c0 c1 c2 c3
      go_wp2
      go_ret2
      exact ⟨rfl, B3.out⟩
    · rw [encR_good ho h2]
      have h2' : ¬ (232 : Int) < (bs (encN n)).size := by omega
      have HR := hid (repeat_any (232 - (encN n).length) (by omega))
      have ec : (((232 - (encN n).length : Nat)) : Int) = 232 - ((bs (encN n)).size : Int) := by omega
      rw [ec] at HR
      have hno : ¬ 9223372036854775807 < (bs (encN n)).size + (bs (zeros (232 - (encN n).length))).size := by rw [bs_size, bs_size]; unfold zeros; rw [List.length_replicate]; omega
      have HX := hid (bs_append (encN n) (zeros (232 - (encN n).length)))
      unfold page
      unfold nV at *
      generalize n.f = f at *
      clear h hl ho HB hm h2 hz ec
      generalize zeros (232 - (encN n).length) = Z at *
      generalize encN n = E at *
      go_enter Tryz.func12, Tryz.ntmps12
      go_wp2_with fail
      refine (HG.out _ HA1.out).mono ?_
      rintro e w3 ⟨rfl, hb⟩
      have B2 := hid (B1.out.trans (hb.mono B1.out.size))
      have N2 := hid (N1.out.on hb)
      have HA2 := hid (HA1.out.on hb)
      obtain ⟨c0, c1, c2, c3⟩ := N2.out.cells
      clear hb
      go_wp2_with fail
      refine (HBB.out _ HA2.out).mono ?_
      rintro e w4 ⟨rfl, hb⟩
      have B3 := hid (B2.out.trans (hb.mono B2.out.size))
      clear hb c0 c1 c2 c3
      go_wp2_with fail
      refine (HR.out _).mono ?_
      rintro e w5 ⟨rfl, hb⟩
      have B4 := hid (B3.out.trans (hb.mono B3.out.size))
      clear hb
      go_wp2
      go_ret2
      exact ⟨by rw [← HX.out]; rfl, B4.out⟩
end No
end Go.Proofs.YtiellodbkanciaaGreatDoor
