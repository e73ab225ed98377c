/-
  The walk of NodeSums.
-/
import Derived.Test.YtiellodbkanciaaDoorNodeAwake
import Derived.Test.YtiellodbkanciaaDoorNodeSame
import Derived.Test.YtiellodbkanciaaDoorNodeSumsM
import Derived.Maps.AppendAt
import Derived.Deep.RegionLaw
import Derived.Deep.DeepCutAuto
namespace Go.Proofs.YtiellodbkanciaaDoor
open Go.RowKit
namespace No
open Num (hid)
theorem LAt.cells_at {α : Type} {k : Nat} {enc : α → List Value} (he : ∀ a, (enc a).length = k) {w : World} {g o m cap : Nat} {l : List α} (h : LAt k enc w (.slice (some ⟨g, o, none⟩) m cap) l) (hk : 0 < k) : ∀ j u, (l.flatMap enc)[j]? = some u → w.cell? ((⟨g, o, none⟩ : Addr).add j) = some u := by
  intro j u hj
  obtain ⟨ao, cap', hv, -, -, hc⟩ := h.ways
  cases hv
  have hjl : j < l.length * k := by
    have := (List.getElem?_eq_some_iff.1 hj).1
    rwa [flat_len he l] at this
  have hq : j / k < l.length := Nat.div_lt_of_lt_mul (by rw [Nat.mul_comm]; exact hjl)
  have hr : j % k < k := Nat.mod_lt _ hk
  have ej : j = j / k * k + j % k := by rw [Nat.mul_comm]; exact (Nat.div_add_mod _ _).symm
  obtain ⟨b, o', e, -, hcc⟩ := hc _ hq
  cases e
  rw [ej, flat_at he l _ hq _ hr, ← hcc _ hr] at hj
  have ea : (⟨g, o, none⟩ : Addr).add j = ⟨g, o + j, none⟩ := by simp [Addr.add]
  have eo : o + j = o + j / k * k + j % k := by omega
  rw [ea, eo]
  exact hj
/-- 'x = append(x, l..)' at a step of a region that draws its order. -/
theorem step_append_list {α : Type} {P : Program} {w : World} {ops : Array Oper} {o : Oper} {a : Act} {K : Act → World → Prop} {Q : Exit → Act → World → Prop} {E : Prop} (hgd : o.guard = none) (s x : Operand) (t : TypeId)
    (ho : o.op = .call { callee := .builtin .append, args := #[s, x], argTypes := #[t, t] })
    (base : Nat) (e : TypeId) (i : TypeInfo) (z : Value) (k bytes : Nat) (enc : α → List Value) (he : ∀ a, (enc a).length = k) (h1e : ∀ a, ∀ u ∈ enc a, u.oneCell' = true)
    (ht : P.underlying t = some (.slice e)) (hi : P.info? e = some i) (hz : i.zero = some z) (hsize : i.size = k) (hby : i.bytes = bytes) (hzs : z.cells.size = k) (hk : 0 < k) (hb32 : bytes ≤ 32)
    (d : Value) (l : List α) (hs : a.eval s = d) (hown : OwnL e k enc w base d l) (hbase : base ≤ w.heap.size)
    (g of m cap : Nat) (news : List α) (hm : news.length = m) (hx : a.eval x = .slice (some ⟨g, of, none⟩) m cap) (hrow : LAt k enc w (.slice (some ⟨g, of, none⟩) m cap) news) (hlen : l.length + m ≤ 1000000)
    (h : ∀ d' w', OwnL e k enc w' base d' (l ++ news) → w.grownBy w' d.ownBlock → (d'.ownBlock = d.ownBlock ∨ d'.ownBlock = some w.heap.size) → K (a.put o.dst d') w') :
    if Region.wanted o (yielded ops a.tmps) = true then Oper.wp P o a w K Q else E := by
  have hw : Region.wanted o (yielded ops a.tmps) = true := by simp [Region.wanted, hgd]
  rw [if_pos hw]
  have hl : (news.flatMap enc).length = m * k := by rw [flat_len he, hm]
  have h1 : ∀ u ∈ news.flatMap enc, u.oneCell' = true := by
    intro u hu
    obtain ⟨b, _, hb⟩ := List.mem_flatMap.1 hu
    exact h1e b u hb
  have h63 : l.length + m ≤ maxLen := by unfold maxLen; omega
  have hbytes : (l.length + m) * bytes ≤ 140737488355328 := by
    have := Nat.mul_le_mul hlen hb32
    omega
  obtain ⟨v', w', hr, h2, h3, -, h5⟩ := run_append_own_at (P := P) w base t o.type e i z k bytes ht hi hz hsize hby hzs hk d l.length (l.flatMap enc) hown ⟨g, of, none⟩ m cap (news.flatMap enc) hl (hrow.cells_at he hk) h1 h63 hbytes hbase
  unfold Oper.wp execOp
  simp only [ho, resolve, invoke, builtin, Sem.run_bind, Sem.run_pure, Result.andThen_ok, List.map_toArray, List.map_cons, List.map_nil, hs, hx, hr]
  refine h v' w' ?_ h3 h5
  unfold OwnL
  rw [List.flatMap_append, List.length_append, hm]
  exact h2
/-- NodeSums under way: the node's box and lists; the box of the node that is made, its lists. -/
structure Sst (W : World) (kv cv pv : Value) (g base : Nat) (ks cs : Value) (kl : List Bs) (cl : List C) (wr : World) : Prop where
  bx : Nb W.heap.size true kv cv pv wr
  be : Below W.heap.size W wr
  lb : Nb g true ks cs nilV wr
  k : OwnS wr base ks kl
  c : OwnC wr base cs cl
  kc : ∀ i, ks.ownBlock = some i → cs.ownBlock = some i → False
  gb : g < base
  gW : W.heap.size < g
  hs : base ≤ wr.heap.size
variable {W : World} {kv cv pv : Value} {g base : Nat} {ks cs : Value} {kl : List Bs} {cl : List C} {wr w' : World}
theorem Sst.on (h : Sst W kv cv pv g base ks cs kl cl wr) (hb : Below wr.heap.size wr w') : Sst W kv cv pv g base ks cs kl cl w' :=
  ⟨h.bx.on hb, h.be.trans (hb.mono h.be.size), h.lb.on hb, OwnL.on h.k hb, OwnL.on h.c hb, h.kc, h.gb, h.gW, Nat.le_trans h.hs hb.size⟩
theorem Sst.drew (h : Sst W kv cv pv g base ks cs kl cl wr) : Sst W kv cv pv g base ks cs kl cl wr.drew := h.on (Below.refl _ _).drew
theorem Sst.new {n : N} (h : Gst W true kv cv pv n wr) : Sst W kv cv pv wr.heap.size (wr.heap.size + 1) nilV nilV [] [] (wr.alloc (.cells #[.bool true, .slice none 0 0, .slice none 0 0, .slice none 0 0] tN)) :=
  ⟨h.bx.on ((Below.refl _ _).alloc (Nat.le_refl _) _), (h.alloc _).be, Nb.new _ _ _ _ _, OwnL.empty _ _, OwnL.empty _ _, fun i hi => by simp [nilV, Value.ownBlock] at hi, Nat.lt_succ_self _, h.bx.lt, by simp⟩
theorem Sst.lbK (h : Sst W kv cv pv g base ks cs kl cl wr) (hg : wr.grownBy w' ks.ownBlock) : Nb g true ks cs nilV w' := h.lb.grown hg (fun e => by have := (OwnL.fresh h.k _ e.symm).1; have := h.gb; omega)
theorem Sst.lbC (h : Sst W kv cv pv g base ks cs kl cl wr) (hg : wr.grownBy w' cs.ownBlock) : Nb g true ks cs nilV w' := h.lb.grown hg (fun e => by have := (OwnL.fresh h.c _ e.symm).1; have := h.gb; omega)
theorem form3 {α : Type} {t : TypeId} {k : Nat} {enc : α → List Value} {base : Nat} {x : Value} {l : List α} {w : World} (h : OwnL t k enc w base x l) : ∃ ao m cap, x = .slice ao m cap := by
  obtain ⟨ao, cap, h⟩ := OwnL.form h
  exact ⟨ao, _, cap, h⟩
theorem key_at0 {w : World} {ao : Option Addr} {n cap : Nat} {l : List Bs} (h : SAt w (.slice ao n cap) l) {k : Nat} (hk : k < l.length) : ∃ b o, ao = some ⟨b, o, none⟩ ∧ b < w.heap.size ∧ w.cell? ⟨b, o + k, none⟩ = some (.string (bs l[k])) := by
  obtain ⟨_, _, e, -, -, hat⟩ := SAt.ways1 h
  cases e
  exact hat k hk
theorem cel_at0 {w : World} {ao : Option Addr} {n cap : Nat} {l : List C} (h : CAt w (.slice ao n cap) l) {k : Nat} (hk : k < l.length) : ∃ b o, ao = some ⟨b, o, none⟩ ∧ b < w.heap.size := by
  obtain ⟨_, _, e, -, -, hat⟩ := CAt.ways3 h
  cases e
  obtain ⟨b, o, h1, h2, -⟩ := hat k hk
  exact ⟨b, o, h1, h2⟩
theorem Sst.pushK (h : Sst W kv cv pv g base ks cs kl cl wr) {v' : Value} {new : List Bs} (hown : OwnS w' base v' (kl ++ new)) (hg : wr.grownBy w' ks.ownBlock) (hat : v'.ownBlock = ks.ownBlock ∨ v'.ownBlock = some wr.heap.size) :
    Sst W kv cv pv g base v' cs (kl ++ new) cl (w'.setCell ⟨g, 1, none⟩ v') := by
  have hr : ∀ i, ks.ownBlock = some i → base ≤ i := fun i hi => (OwnL.fresh h.k i hi).1
  have a1 : Nb W.heap.size true kv cv pv w' := h.bx.grown hg (fun e => by have := hr _ e.symm; have := h.gb; have := h.gW; omega)
  have a2 : Nb g true ks cs nilV w' := h.lb.grown hg (fun e => by have := hr _ e.symm; have := h.gb; omega)
  have a3 : Below W.heap.size W w' := h.be.grown hg h.be.size (fun i hi => by have := hr i hi; have := h.gb; have := h.gW; omega)
  refine ⟨a1.other (by have := h.gW; omega) _ _, bput a3 (by have := h.gW; omega) _ _, a2.setK _, hown.set h.gb _, (OwnL.grown h.c hg (fun i hi hk => h.kc i hk hi)).set h.gb _, ?_, h.gb, h.gW, by have := h.hs; have := hg.size; simp [World.setCell]; omega⟩
  intro i hi hc
  rcases hat with hat | hat
  · rw [hat] at hi; exact h.kc i hi hc
  · rw [hat] at hi
    cases hi
    have := (OwnL.fresh h.c _ hc).2; omega
theorem Sst.pushC (h : Sst W kv cv pv g base ks cs kl cl wr) {v' : Value} {new : List C} (hown : OwnC w' base v' (cl ++ new)) (hg : wr.grownBy w' cs.ownBlock) (hat : v'.ownBlock = cs.ownBlock ∨ v'.ownBlock = some wr.heap.size) :
    Sst W kv cv pv g base ks v' kl (cl ++ new) (w'.setCell ⟨g, 2, none⟩ v') := by
  have hr : ∀ i, cs.ownBlock = some i → base ≤ i := fun i hi => (OwnL.fresh h.c i hi).1
  have a1 : Nb W.heap.size true kv cv pv w' := h.bx.grown hg (fun e => by have := hr _ e.symm; have := h.gb; have := h.gW; omega)
  have a2 : Nb g true ks cs nilV w' := h.lb.grown hg (fun e => by have := hr _ e.symm; have := h.gb; omega)
  have a3 : Below W.heap.size W w' := h.be.grown hg h.be.size (fun i hi => by have := hr i hi; have := h.gb; have := h.gW; omega)
  refine ⟨a1.other (by have := h.gW; omega) _ _, bput a3 (by have := h.gW; omega) _ _, a2.setC _, (OwnL.grown h.k hg (fun i hi hk => h.kc i hi hk)).set h.gb _, hown.set h.gb _, ?_, h.gb, h.gW, by have := h.hs; have := hg.size; simp [World.setCell]; omega⟩
  intro i hi hc
  rcases hat with hat | hat
  · rw [hat] at hc; exact h.kc i hi hc
  · rw [hat] at hc
    cases hc
    have := (OwnL.fresh h.k _ hi).2; omega
theorem slice_mid {w : World} {b o n cap k m : Nat} {α : Type} {kk : Nat} {enc : α → List Value} {l : List α} (h : LAt kk enc w (.slice (some ⟨b, o, none⟩) n cap) l) (hk : k < n) (hm : m = o + k * kk) : LAt kk enc w (.slice (some ⟨b, m, none⟩) 1 (cap - k)) ((l.drop k).take 1) := by
  subst hm
  have hr := h.room
  have h1 := h.drop (m := k) (by omega)
  unfold dropS at h1
  rw [if_neg (by omega)] at h1
  have e : (some (⟨b, o, none⟩ : Addr)).map (fun x => x.add (k * kk)) = some ⟨b, o + k * kk, none⟩ := by simp [Addr.add]
  rw [e] at h1
  exact h1.take (by omega)
theorem slice_adr (b o cap k off : Nat) : ∃ q, (if cap = k then some (⟨b, o, none⟩ : Addr) else some ⟨b, o + off, none⟩) = some ⟨b, q, none⟩ := by
  by_cases h : cap = k
  · exact ⟨o, if_pos h⟩
  · exact ⟨o + off, if_neg h⟩
theorem slice_end {w : World} {b o n cap k off q : Nat} {α : Type} {kk : Nat} {enc : α → List Value} {l : List α} (h : LAt kk enc w (.slice (some ⟨b, o, none⟩) n cap) l) (hk : k ≤ n) (ho : off = k * kk) (hq : (if cap = k then some (⟨b, o, none⟩ : Addr) else some ⟨b, o + off, none⟩) = some ⟨b, q, none⟩) : LAt kk enc w (.slice (some ⟨b, q, none⟩) (n - k) (cap - k)) (l.drop k) := by
  subst ho
  have h1 := h.drop (m := k) hk
  unfold dropS at h1
  have e : (some (⟨b, o, none⟩ : Addr)).map (fun x => x.add (k * kk)) = some ⟨b, o + k * kk, none⟩ := by simp [Addr.add]
  rw [e, hq] at h1
  exact h1
theorem size_most {n : N} (h : Fit n) : sizeN n ≤ 140000 := by
  unfold sizeN
  split
  · rename_i ho; exact encN_most ho h.k
  · exact Nat.zero_le _
end No
namespace nodeSums
open No
open Num (hid)
set_option maxRecDepth 100000 in
set_option maxHeartbeats 16000000 in
theorem walk (n : N) (kv cv pv : Value) (at' : Int) (W : World) (na : NAt W kv cv pv n) (wd : Wide n) (_z1 : -9223372036854775808 ≤ at' ∧ at' ≤ 9223372036854775807) :
    Calls Tryd.prog 5 #[nV n.f kv cv pv, .int .i64 at'] W fun e W' => e = .returned (.bool true) ∧ Below W.heap.size W W' := by
  have HAW := hid awake_any
  have HGR := hid (fun w h => great_any kv cv pv n wd w h)
  have HGD := hid (fun h1 h2 w h => good_any kv cv pv n h1 h2 w h)
  have HNA := hid na
  obtain ⟨ao, cap, rfl, -, -, -⟩ := SAt.ways1 na.k
  obtain ⟨ao2, cap2, rfl, -, -, -⟩ := CAt.ways3 na.c
  have G0 := hid (Gst.new (f := n.f) na)
  clear na wd
  unfold nV at *
  go_enter Tryd.func5, Tryd.ntmps5
  go_wp2_with fail
  refine (HAW.out _).mono ?_
  rintro e w1 ⟨rfl, hb⟩
  have G1 := hid (G0.out.on hb)
  obtain ⟨c0, c1, c2, c3⟩ := G1.out.bx.cells
  clear hb G0
  go_wp2_with fail
  refine (HGR.out _ G1.out.na).mono ?_
  rintro e w2 ⟨⟨x, rfl, hx⟩, hb⟩
  have G2 := hid (G1.out.on hb)
  clear hb c0 c1 c2 c3 G1 HGR HAW
  obtain ⟨c0, c1, c2, c3⟩ := G2.out.bx.cells
  cases x with
  | true =>
    go_wp2
    go_ret
    exact ⟨rfl, G2.out.be⟩
  | false =>
    obtain ⟨x1, x2, x3⟩ := hx rfl
    have HGD' := hid (HGD.out (by omega) (by omega))
    clear hx HGD
    cases ho : okN n with
    | false =>
      rw [ho] at HGD'
      clear x2 x3 ho
      go_wp2_with fail
      refine (HGD'.out _ G2.out.na).mono ?_
      rintro e w3 ⟨rfl, hb⟩
      have G3 := hid (G2.out.on hb)
      clear hb c0 c1 c2 c3
      go_wp2
      go_ret
      exact ⟨rfl, G3.out.be⟩
    | true =>
      rw [ho] at HGD'
      cases hf : n.f with
      | false =>
        rw [hf] at G2 HGD' c0
        clear x2 x3 ho
        go_wp2_with fail
        refine (HGD'.out _ G2.out.na).mono ?_
        rintro e w3 ⟨rfl, hb⟩
        have G3 := hid (G2.out.on hb)
        clear hb c0 c1 c2 c3
        obtain ⟨c0, c1, c2, c3⟩ := G3.out.bx.cells
        go_wp2
        go_ret
        exact ⟨rfl, G3.out.be⟩
      | true =>
        rw [hf] at G2 HGD' c0
        by_cases hl : n.ks.length = 0
        · have hl' : ((n.ks.length : Int) == 0) = true := by rw [hl]; rfl
          clear x2 x3 ho hl
          go_wp2_with fail
          refine (HGD'.out _ G2.out.na).mono ?_
          rintro e w3 ⟨rfl, hb⟩
          have G3 := hid (G2.out.on hb)
          clear hb c0 c1 c2 c3
          obtain ⟨c0, c1, c2, c3⟩ := G3.out.bx.cells
          go_wp2
          go_ret
          exact ⟨rfl, G3.out.be⟩
        · have hl' : ((n.ks.length : Int) == 0) = false := by rw [beq_eq_false_iff_ne]; omega
          have hcl : n.cs.length = n.ks.length := by
            obtain ⟨-, -, a3⟩ := okN_ways ho
            rcases a3 with ⟨-, h, -, -⟩ | ⟨h, _⟩
            · exact h
            · rw [hf] at h; cases h
          have hU0 : 0 ≤ IntKind.u64.wrap at' := by rw [Num.wrap_u]; omega
          obtain ⟨k, hk⟩ : ∃ k : Nat, (IntKind.u64.wrap at').tmod (n.ks.length : Int) = (k : Int) := ⟨((IntKind.u64.wrap at').tmod (n.ks.length : Int)).toNat, by rw [Int.tmod_eq_emod_of_nonneg hU0]; have := Int.emod_nonneg (IntKind.u64.wrap at') (show (n.ks.length : Int) ≠ 0 by omega); omega⟩
          have hkl : k < n.ks.length := by rw [Int.tmod_eq_emod_of_nonneg hU0] at hk; have := Int.emod_lt_of_pos (IntKind.u64.wrap at') (show 0 < (n.ks.length : Int) by omega); omega
          clear hU0
          have HO := hid ho
          have HF := hid hf
          have hpl : n.ps.length ≤ 1000 := by omega
          have HK := hid hk
          have HCL := hid hcl
          clear hcl x3
          have hu : IntKind.u64.wrap (n.ks.length : Int) = (n.ks.length : Int) := by rw [Num.wrap_u]; omega
          have hne : ¬ (n.ks.length : Int) = 0 := by omega
          clear hk ho hl hu hne
          go_wp2_with fail
          refine (HGD'.out _ G2.out.na).mono ?_
          rintro e w3 ⟨rfl, hb⟩
          have G3 := hid (G2.out.on hb)
          clear hb c0 c1 c2 c3
          obtain ⟨c0, c1, c2, c3⟩ := G3.out.bx.cells
          go_upto_region 5 with fail
          obtain ⟨U, hU⟩ : ∃ U : Int, IntKind.u64.wrap at' = U := ⟨_, rfl⟩
          have hk := HK.out
          rw [hU] at hk
          have hu : IntKind.u64.wrap (n.ks.length : Int) = (n.ks.length : Int) := by rw [Num.wrap_u]; omega
          have hne : ¬ (n.ks.length : Int) = 0 := by omega
          have hki : wrap64 (k : Int) = (k : Int) := by rw [Num.wrap_i]; omega
          go_upto_region 6 with fail
          clear hk hU hu hki hne
          have S1 := hid (Sst.new G3.out)
          have HKV : Hid (∀ wx, Below W.heap.size W wx → SAt wx (.slice ao n.ks.length cap) n.ks) := hid (fun wx h => HNA.out.k.on h)
          have HPV : Hid (∀ wx, Below W.heap.size W wx → IAt wx pv n.ps) := hid (fun wx h => HNA.out.p.on h)
          have HCV : Hid (∀ wx, Below W.heap.size W wx → CAt wx (.slice ao2 n.cs.length cap2) n.cs) := hid (fun wx h => HNA.out.c.on h)
          obtain ⟨b, o, rfl, -, -⟩ := key_at0 HNA.out.k (k := 0) (by omega)
          obtain ⟨b2, o2, rfl, -⟩ := cel_at0 HNA.out.c (k := 0) (by have := HCL.out; omega)
          clear HNA HGD'
          obtain ⟨iS, hiS, h0S, h1S, h2S⟩ := info_parts infoS
          obtain ⟨iC, hiC, h0C, h1C, h2C⟩ := info_parts infoC
          obtain ⟨c0', c1', c2', c3'⟩ := S1.out.bx.cells
          obtain ⟨l0, l1, l2, l3⟩ := S1.out.lb.cells
          clear c0 c1 c2 c3
          unfold nilV at l1 l2 l3
          have hcapk := (HKV.out _ (Below.refl _ _)).room.2
          have hcapc := (HCV.out _ (Below.refl _ _)).room.2
          have hk1 : IntKind.i64.wrap ((k : Int) + 1) = ((k + 1 : Nat) : Int) := by rw [IntKind.wrap_i64]; omega
          have hkl1 : k + 1 ≤ n.ks.length := by omega
          have hkl2 : (k : Int) + 1 ≤ n.ks.length := by omega
          have hkp : (0 : Int) ≤ (k : Int) + 1 := by omega
          have hkl3 : k + 1 ≤ n.cs.length := by have := HCL.out; omega
          have hkl4 : (k : Int) + 1 ≤ n.cs.length := by omega
          have hkc : k ≤ cap := by omega
          have hkn : ¬ cap = k := by omega
          have hkc3 : (k : Int) + 1 ≤ cap := by omega
          have hkc4 : (k : Int) + 1 ≤ cap2 := by omega
          have hkn2 : ¬ cap2 = k := by omega
          have hkc2 : k ≤ cap2 := by omega
-- REGIONS
          go_upto_region 7 with fail
          go_cut [] (fun wx => ∃ ad md cd, Hid (Sst W (.slice (some ⟨b, o, none⟩) n.ks.length cap) (.slice (some ⟨b2, o2, none⟩) n.cs.length cap2) pv w3.heap.size (w3.heap.size + 1) (.slice ad md cd) nilV ([] ++ (n.ks.take k)) [] wx))
          case first =>
            go_region_law (first
              | ((refine step_append_list (by rfl) (.tmp 38) (.tmp 42) tSs (by rfl) (w3.heap.size + 1) tS iS _ 1 16 sV sV_len sV_one Tryd.underlying22 hiS h0S h1S h2S rfl (by decide) (by decide) (.slice none 0 0) [] (by rfl) S1.out.drew.k S1.out.drew.hs b o k cap (n.ks.take k) (by rw [List.length_take]; omega) (by rfl) ((HKV.out _ S1.out.drew.be).take (by omega)) (by simp only [List.length_nil]; omega) ?_; intro d' w11 hown hgrow hat; obtain ⟨ad, md, cd, rfl⟩ := form3 hown; have x2 := S1.out.drew.lbK hgrow; obtain ⟨y0, y1, y2, y3⟩ := x2.cells; obtain ⟨z0, z1, z2, z3⟩ := x2.free; have hxl := x2.lt; have S2 := hid (S1.out.drew.pushK hown hgrow hat); clear hown hgrow hat x2)))
            all_goals
              go_wp2_with fail
              go_meet
              exact ⟨ad, md, cd, S2⟩
          case rest =>
          clear l0 l1 l2 l3 c0' c1' c2' c3' S1
          obtain ⟨ad, md, cd, S2⟩ := hcut
          obtain ⟨c0', c1', c2', c3'⟩ := S2.out.bx.cells
          obtain ⟨l0, l1, l2, l3⟩ := S2.out.lb.cells
          unfold nilV at l2 l3
          go_upto_region 8 with fail
          obtain ⟨q, hqK⟩ : ∃ q, (if cap = k + 1 then some (⟨b, o, none⟩ : Addr) else some ⟨b, o + (k + 1), none⟩) = some ⟨b, q, none⟩ := slice_adr _ _ _ _ _
          have HQK : Hid (∀ wx, Below W.heap.size W wx → LAt 1 sV wx (.slice (some ⟨b, q, none⟩) (n.ks.length - (k + 1)) (cap - (k + 1))) (n.ks.drop (k + 1))) := hid (fun wx h => slice_end (HKV.out wx h) (by omega) (by omega) hqK)
          go_cut [] (fun wx => ∃ ad md cd, Hid (Sst W (.slice (some ⟨b, o, none⟩) n.ks.length cap) (.slice (some ⟨b2, o2, none⟩) n.cs.length cap2) pv w3.heap.size (w3.heap.size + 1) (.slice ad md cd) nilV (([] ++ n.ks.take k) ++ (n.ks.drop (k + 1))) [] wx))
          case first =>
            go_region_law (first
              | ((refine step_append_list (by rfl) (.tmp 46) (.tmp 51) tSs (by rfl) (w3.heap.size + 1) tS iS _ 1 16 sV sV_len sV_one Tryd.underlying22 hiS h0S h1S h2S rfl (by decide) (by decide) (.slice ad md cd) ([] ++ n.ks.take k) (by rfl) S2.out.drew.k S2.out.drew.hs b q (n.ks.length - (k + 1)) (cap - (k + 1)) (n.ks.drop (k + 1)) (by rw [List.length_drop]) (by rfl) (HQK.out _ S2.out.drew.be) (by simp only [List.length_append, List.length_take, List.length_nil]; omega) ?_; intro d' w12 hown hgrow hat; obtain ⟨ad2, md2, cd2, rfl⟩ := form3 hown; have x2 := S2.out.drew.lbK hgrow; obtain ⟨y0, y1, y2, y3⟩ := x2.cells; obtain ⟨z0, z1, z2, z3⟩ := x2.free; have hxl := x2.lt; have S3 := hid (S2.out.drew.pushK hown hgrow hat); clear hown hgrow hat x2)))
            all_goals
              go_wp2_with fail
              go_meet
              exact ⟨ad2, md2, cd2, S3⟩
          case rest =>
          clear l0 l1 l2 l3 c0' c1' c2' c3' S2
          obtain ⟨ad, md, cd, S3⟩ := hcut
          obtain ⟨c0', c1', c2', c3'⟩ := S3.out.bx.cells
          obtain ⟨l0, l1, l2, l3⟩ := S3.out.lb.cells
          unfold nilV at l2 l3
          go_upto_region 9 with fail
          go_cut [] (fun wx => ∃ ae me ce, Hid (Sst W (.slice (some ⟨b, o, none⟩) n.ks.length cap) (.slice (some ⟨b2, o2, none⟩) n.cs.length cap2) pv w3.heap.size (w3.heap.size + 1) (.slice ad md cd) (.slice ae me ce) (([] ++ n.ks.take k) ++ n.ks.drop (k + 1)) ([] ++ (n.cs.take k)) wx))
          case first =>
            go_region_law (first
              | ((refine step_append_list (by rfl) (.tmp 55) (.tmp 59) tCs (by rfl) (w3.heap.size + 1) tC iC _ 3 32 C.vals vals_len vals_one Tryd.underlying23 hiC h0C h1C h2C rfl (by decide) (by decide) (.slice none 0 0) [] (by rfl) S3.out.drew.c S3.out.drew.hs b2 o2 k cap2 (n.cs.take k) (by rw [List.length_take]; have := HCL.out; omega) (by rfl) ((HCV.out _ S3.out.drew.be).take (by omega)) (by simp only [List.length_nil]; omega) ?_; intro d' w13 hown hgrow hat; obtain ⟨ae, me, ce, rfl⟩ := form3 hown; have x2 := S3.out.drew.lbC hgrow; obtain ⟨y0, y1, y2, y3⟩ := x2.cells; obtain ⟨z0, z1, z2, z3⟩ := x2.free; have hxl := x2.lt; have S4 := hid (S3.out.drew.pushC hown hgrow hat); clear hown hgrow hat x2)))
            all_goals
              go_wp2_with fail
              go_meet
              exact ⟨ae, me, ce, S4⟩
          case rest =>
          clear l0 l1 l2 l3 c0' c1' c2' c3' S3
          obtain ⟨ae, me, ce, S4⟩ := hcut
          obtain ⟨c0', c1', c2', c3'⟩ := S4.out.bx.cells
          obtain ⟨l0, l1, l2, l3⟩ := S4.out.lb.cells
          unfold nilV at l3
          go_upto_region 10 with fail
          obtain ⟨p, hqC⟩ : ∃ q, (if cap2 = k + 1 then some (⟨b2, o2, none⟩ : Addr) else some ⟨b2, o2 + (k + 1) * 3, none⟩) = some ⟨b2, q, none⟩ := slice_adr _ _ _ _ _
          have HQC : Hid (∀ wx, Below W.heap.size W wx → LAt 3 C.vals wx (.slice (some ⟨b2, p, none⟩) (n.cs.length - (k + 1)) (cap2 - (k + 1))) (n.cs.drop (k + 1))) := hid (fun wx h => slice_end (HCV.out wx h) (by omega) (by omega) hqC)
          go_cut [] (fun wx => ∃ ae me ce, Hid (Sst W (.slice (some ⟨b, o, none⟩) n.ks.length cap) (.slice (some ⟨b2, o2, none⟩) n.cs.length cap2) pv w3.heap.size (w3.heap.size + 1) (.slice ad md cd) (.slice ae me ce) (([] ++ n.ks.take k) ++ n.ks.drop (k + 1)) (([] ++ n.cs.take k) ++ (n.cs.drop (k + 1))) wx))
          case first =>
            go_region_law (first
              | ((refine step_append_list (by rfl) (.tmp 63) (.tmp 68) tCs (by rfl) (w3.heap.size + 1) tC iC _ 3 32 C.vals vals_len vals_one Tryd.underlying23 hiC h0C h1C h2C rfl (by decide) (by decide) (.slice ae me ce) ([] ++ n.cs.take k) (by rfl) S4.out.drew.c S4.out.drew.hs b2 p (n.cs.length - (k + 1)) (cap2 - (k + 1)) (n.cs.drop (k + 1)) (by rw [List.length_drop]) (by rfl) (HQC.out _ S4.out.drew.be) (by simp only [List.length_append, List.length_take, List.length_nil]; omega) ?_; intro d' w14 hown hgrow hat; obtain ⟨ae2, me2, ce2, rfl⟩ := form3 hown; have x2 := S4.out.drew.lbC hgrow; obtain ⟨y0, y1, y2, y3⟩ := x2.cells; obtain ⟨z0, z1, z2, z3⟩ := x2.free; have hxl := x2.lt; have S5 := hid (S4.out.drew.pushC hown hgrow hat); clear hown hgrow hat x2)))
            all_goals
              go_wp2_with fail
              go_meet
              exact ⟨ae2, me2, ce2, S5⟩
          case rest =>
          clear l0 l1 l2 l3 c0' c1' c2' c3' S4
          obtain ⟨ae, me, ce, S5⟩ := hcut
          obtain ⟨c0', c1', c2', c3'⟩ := S5.out.bx.cells
          obtain ⟨l0, l1, l2, l3⟩ := S5.out.lb.cells
          unfold nilV at l3
          go_upto_region 11 with fail
          go_cut [7] (fun p wx => ∃ g2, p = .pointer (some ⟨g2, 0, none⟩) ∧ Hid (Nb g2 true (.slice (some ⟨b, o + k, none⟩) 1 (cap - k)) (.slice (some ⟨b2, o2 + k * 3, none⟩) 1 (cap2 - k)) nilV wx) ∧ Hid (Sst W (.slice (some ⟨b, o, none⟩) n.ks.length cap) (.slice (some ⟨b2, o2, none⟩) n.cs.length cap2) pv w3.heap.size (w3.heap.size + 1) (.slice ad md cd) (.slice ae me ce) (([] ++ n.ks.take k) ++ n.ks.drop (k + 1)) (([] ++ n.cs.take k) ++ n.cs.drop (k + 1)) wx))
          case first =>
            have hlt1 := S5.out.bx.lt
            have hlt2 := S5.out.lb.lt
            have S6 := hid (S5.out.drew.on ((Below.refl _ _).alloc (Nat.le_refl _) (.cells #[.bool true, (.slice (some ⟨b, o + k, none⟩) 1 (cap - k)), (.slice (some ⟨b2, o2 + k * 3, none⟩) 1 (cap2 - k)), .slice none 0 0] tN)))
            have X6 := hid (Nb.new true (.slice (some ⟨b, o + k, none⟩) 1 (cap - k)) (.slice (some ⟨b2, o2 + k * 3, none⟩) 1 (cap2 - k)) nilV wc.drew)
            go_region_law (fail)
            all_goals
              go_wp2_with fail
              go_meet
              exact ⟨_, rfl, X6, S6⟩
          case rest =>
          obtain ⟨g2, rfl, X6, S6⟩ := hcut
          obtain ⟨wr, hwr⟩ : ∃ x, x = wc := ⟨_, rfl⟩
          subst hwr
          clear c0' c1' c2' c3' l0 l1 l2 l3 S5
          obtain ⟨c0', c1', c2', c3'⟩ := S6.out.bx.cells
          obtain ⟨l0, l1, l2, l3⟩ := S6.out.lb.cells
          obtain ⟨m0, m1, m2, m3⟩ := X6.out.cells
          have lb1 := S6.out.bx.lt
          have lb2 := S6.out.lb.lt
          have lb3 := X6.out.lt
          unfold nilV at l3 m3
          have hL0 := fun wx (hx : Below wr.heap.size wr wx) => (hx.cell (p := ⟨w3.heap.size, 0, none⟩) lb2).trans l0
          have hL1 := fun wx (hx : Below wr.heap.size wr wx) => (hx.cell (p := ⟨w3.heap.size, 1, none⟩) lb2).trans l1
          have hL2 := fun wx (hx : Below wr.heap.size wr wx) => (hx.cell (p := ⟨w3.heap.size, 2, none⟩) lb2).trans l2
          have hL3 := fun wx (hx : Below wr.heap.size wr wx) => (hx.cell (p := ⟨w3.heap.size, 3, none⟩) lb2).trans l3
          have hM0 := fun wx (hx : Below wr.heap.size wr wx) => (hx.cell (p := ⟨g2, 0, none⟩) lb3).trans m0
          have hM1 := fun wx (hx : Below wr.heap.size wr wx) => (hx.cell (p := ⟨g2, 1, none⟩) lb3).trans m1
          have hM2 := fun wx (hx : Below wr.heap.size wr wx) => (hx.cell (p := ⟨g2, 2, none⟩) lb3).trans m2
          have hM3 := fun wx (hx : Below wr.heap.size wr wx) => (hx.cell (p := ⟨g2, 3, none⟩) lb3).trans m3
          have hN0 := fun wx (hx : Below wr.heap.size wr wx) => (hx.cell (p := ⟨W.heap.size, 0, none⟩) lb1).trans c0'
          have hN1 := fun wx (hx : Below wr.heap.size wr wx) => (hx.cell (p := ⟨W.heap.size, 1, none⟩) lb1).trans c1'
          have hN2 := fun wx (hx : Below wr.heap.size wr wx) => (hx.cell (p := ⟨W.heap.size, 2, none⟩) lb1).trans c2'
          have hN3 := fun wx (hx : Below wr.heap.size wr wx) => (hx.cell (p := ⟨W.heap.size, 3, none⟩) lb1).trans c3'
          have hbe := S6.out.be
          have F1 : Fit (lessN n k) := ⟨by unfold lessN; simp only [List.length_append, List.length_take, List.length_drop]; omega, by unfold lessN; exact Nat.zero_le _⟩
          have F2 : Fit (loneN n k) := ⟨by unfold loneN; simp only [List.length_take, List.length_drop]; omega, by unfold loneN; exact Nat.zero_le _⟩
          have F3 : Fit n := ⟨by omega, hpl⟩
          have hs1 := sums HO.out HF.out hkl
          have hb1 : sizeN (lessN n k) ≤ 140000 := size_most F1
          have hb2 : sizeN (loneN n k) ≤ 140000 := size_most F2
          have hb3 : sizeN n ≤ 140000 := size_most F3
          have HSA : Hid (∀ wx, Below wr.heap.size wr wx → Calls Tryd.prog 11 #[.agg #[.bool true, .slice ad md cd, .slice ae me ce, .slice none 0 0]] wx fun e w' => e = .returned (.int .i64 (sizeN (lessN n k) : Nat)) ∧ Below wx.heap.size wx w') := hid (fun wx hx => size_any _ _ _ (lessN n k) F1 wx (by
            have s7 := S6.out.on hx
            refine ⟨?_, ?_, LAt.nil _ _ _⟩
            · have := OwnL.row sV_len s7.k (by simp only [List.length_append, List.length_take, List.length_drop, List.length_nil]; unfold maxLen; omega)
              rwa [List.nil_append] at this
            · have := OwnL.row vals_len s7.c (by simp only [List.length_append, List.length_take, List.length_drop, List.length_nil]; unfold maxLen; omega)
              rwa [List.nil_append] at this))
          have HSB : Hid (∀ wx, Below wr.heap.size wr wx → Calls Tryd.prog 11 #[.agg #[.bool true, (.slice (some ⟨b, o + k, none⟩) 1 (cap - k)), (.slice (some ⟨b2, o2 + k * 3, none⟩) 1 (cap2 - k)), .slice none 0 0]] wx fun e w' => e = .returned (.int .i64 (sizeN (loneN n k) : Nat)) ∧ Below wx.heap.size wx w') := hid (fun wx hx => size_any _ _ _ (loneN n k) F2 wx (by
            have s7 := (S6.out.on hx).be
            exact ⟨slice_mid (HKV.out _ s7) hkl (by omega), slice_mid (HCV.out _ s7) (by omega) rfl, LAt.nil _ _ _⟩))
          have HSD : Hid (∀ wx, Below wr.heap.size wr wx → Calls Tryd.prog 11 #[.agg #[.bool true, (.slice (some ⟨b, o, none⟩) n.ks.length cap), (.slice (some ⟨b2, o2, none⟩) n.cs.length cap2), pv]] wx fun e w' => e = .returned (.int .i64 (sizeN n : Nat)) ∧ Below wx.heap.size wx w') := hid (fun wx hx => by
            have h := size_any (.slice (some ⟨b, o, none⟩) n.ks.length cap) (.slice (some ⟨b2, o2, none⟩) n.cs.length cap2) pv n F3 wx (by
              have s7 := (S6.out.on hx).be
              exact ⟨HKV.out _ s7, HCV.out _ s7, HPV.out _ s7⟩)
            rw [HF.out] at h
            exact h)
          clear F1 F2 F3
          generalize sizeN (lessN n k) = A at *
          generalize sizeN (loneN n k) = B at *
          generalize sizeN n = D at *
          have hw1 : IntKind.i64.wrap ((A : Int) + (B : Int)) = (A : Int) + (B : Int) := by rw [IntKind.wrap_i64]; omega
          have hw2 : IntKind.i64.wrap ((D : Int) + 3) = (D : Int) + 3 := by rw [IntKind.wrap_i64]; omega
          have hsi : (A : Int) + (B : Int) = (D : Int) + 3 := by omega
          go_upto_region 12 with fail
          refine wp_quiet_in (fun wx => Below wr.heap.size wr wx) (by kernel_rfl) (by kernel_rfl) (Below.refl _ _).drew ?_
          go_big_quiet_want
          go_big_quiet_op
          refine ⟨.agg #[.bool true, .slice ad md cd, .slice ae me ce, .slice none 0 0], fun wx hx => ?_, ?_⟩
          · simp [go_sem, hL0 wx hx, hL1 wx hx, hL2 wx hx, hL3 wx hx]
          go_big_quiet_on
          go_big_quiet_want
          go_big_quiet_op
          refine ⟨.int .i64 (A : Nat), fun wx hx => ?_, ?_⟩
          · refine (HSA.out wx hx).mono ?_
            rintro e w9 ⟨rfl, hb9⟩
            exact ⟨rfl, hx.trans (hb9.mono hx.size)⟩
          go_big_quiet_on
          go_big_quiet_want
          go_big_quiet_op
          refine ⟨.agg #[.bool true, (.slice (some ⟨b, o + k, none⟩) 1 (cap - k)), (.slice (some ⟨b2, o2 + k * 3, none⟩) 1 (cap2 - k)), .slice none 0 0], fun wx hx => ?_, ?_⟩
          · simp [go_sem, hM0 wx hx, hM1 wx hx, hM2 wx hx, hM3 wx hx]
          go_big_quiet_on
          go_big_quiet_want
          go_big_quiet_op
          refine ⟨.int .i64 (B : Nat), fun wx hx => ?_, ?_⟩
          · refine (HSB.out wx hx).mono ?_
            rintro e w9 ⟨rfl, hb9⟩
            exact ⟨rfl, hx.trans (hb9.mono hx.size)⟩
          go_big_quiet_on
          go_big_quiet_want
          go_big_quiet_op
          refine ⟨.int .i64 ((D : Int) + 3), fun wx hx => ?_, ?_⟩
          · simp [go_sem] <;> omega
          go_big_quiet_on
          go_big_quiet_want
          go_big_quiet_op
          refine ⟨.agg #[.bool true, (.slice (some ⟨b, o, none⟩) n.ks.length cap), (.slice (some ⟨b2, o2, none⟩) n.cs.length cap2), pv], fun wx hx => ?_, ?_⟩
          · simp [go_sem, hN0 wx hx, hN1 wx hx, hN2 wx hx, hN3 wx hx]
          go_big_quiet_on
          go_big_quiet_want
          go_big_quiet_op
          refine ⟨.int .i64 (D : Nat), fun wx hx => ?_, ?_⟩
          · refine (HSD.out wx hx).mono ?_
            rintro e w9 ⟨rfl, hb9⟩
            exact ⟨rfl, hx.trans (hb9.mono hx.size)⟩
          go_big_quiet_on
          go_big_quiet_want
          go_big_quiet_op
          refine ⟨.int .i64 ((D : Int) + 3), fun wx hx => ?_, ?_⟩
          · simp [go_sem]
          go_big_quiet_on
          go_big_quiet_want
          go_big_quiet_op
          refine ⟨.bool true, fun wx hx => ?_, ?_⟩
          · simp [go_sem]
          go_big_quiet_on
          go_big_quiet_want
          go_big_quiet_op
          go_big_quiet_on
          refine wpQuiet_nil ?_
          intro w20 hb20
          have BF := hid (hbe.trans (hb20.mono hbe.size))
          clear hb20
          go_wp2
          go_ret
          exact ⟨rfl, BF.out⟩
end nodeSums
end Go.Proofs.YtiellodbkanciaaDoor
