/-
  Put together: TreeSet, TreeAdd.
-/
import Derived.Test.YtoifhcmgeackdaaGreatDoorTreeSmall
import Derived.Maps.OwnSet
import Derived.Test.YtoifhcmgeackdaaGreatDoorGrpTrShC
import Derived.Test.YtoifhcmgeackdaaGreatDoorGrpTrChC
/-
  A set of ints as a map, as List keeps what it has seen; a list under way.
-/
namespace Go.Proofs.YtoifhcmgeackdaaGreatDoor
open Go.RowKit Go.Maps
namespace Tr
open Num (hid)
open Mem (Bs bs ptr Chg tI)
open Sh (Wf)
abbrev tMs : TypeId := 124
abbrev tNil : TypeId := 211
theorem intKey : Maps.Keyed Tryz.prog tI := Maps.int_keyed Tryz.underlying3
/-- How a value of the set reads. -/
def eElem : Value → Option (DataW Unit × List MemPlace)
  | .agg cs => if cs = #[] then some (.agg [], []) else none
  | _ => none
theorem eElem_mk : eElem (.agg #[]) = some (.agg [], []) := rfl
theorem eElem_inv {v : Value} {d : DataW Unit} {ps : List MemPlace} (h : eElem v = some (d, ps)) : v = .agg #[] := by
  unfold eElem at h
  split at h
  · split at h
    · rename_i e; rw [e]
    · cases h
  · cases h
structure SetP (w : World) (b c : Nat) (L : List Int) : Prop where
  ex : ∃ D, w.ownsMap Tryz.prog tI eElem b c D ∧ ∀ z : Int, Maps.has D (.int .i64 z) = decide (z ∈ L)
variable {w w' : World} {b c : Nat} {L : List Int}
theorem SetP.lt (h : SetP w b c L) : b < w.heap.size := by
  obtain ⟨D, hm, -⟩ := h.ex
  exact hm.lt
theorem SetP.apart {F : Nat → Prop} (h : SetP w b c L) (hc : Chg F w w') (hF : ¬ F b) : SetP w' b c L := by
  obtain ⟨D, ⟨es, clock, hb, r⟩, hr⟩ := h.ex
  exact ⟨⟨D, ⟨es, clock, hc.at hb hF, r⟩, hr⟩⟩
theorem SetP.on (h : SetP w b c L) (hb : Below w.heap.size w w') : SetP w' b c L := h.apart (F := fun _ => False) (Chg.of_below hb) (fun x => x)
theorem setP_new (w : World) : SetP (w.alloc (.map #[] 0)) w.heap.size 0 [] :=
  ⟨⟨.map [], World.ownsMap_made w Tryz.prog tI eElem, fun z => by simp [Maps.has]⟩⟩
theorem zeroNil (w : World) : (zeroValue tNil).run Tryz.prog w = .ok (.agg #[]) w := Tryz.zeroValue211 w
theorem SetP.look (h : SetP w b c L) {n : Int} (hw : Wf n) : (Instr.lookup tMs (.map (some b)) (.int .i64 n) true).run Tryz.prog w = .ok (.tuple #[.agg #[], .bool (decide (n ∈ L))]) w := by
  obtain ⟨D, hm, hr⟩ := h.ex
  obtain ⟨v, ps, hrun, hv⟩ := hm.look_ok intKey Tryz.underlying124 (zeroNil w) eElem_mk (Maps.keyOf_int_mk Tryz.underlying3 hw)
  rw [hrun, hr, eElem_inv hv]
theorem SetP.put (h : SetP w b c L) {n : Int} (hn : Wf n) (hc : c ≤ 1000000) :
    ∃ w', (Instr.mapUpdate tMs (.map (some b)) (.int .i64 n) (.agg #[])).run Tryz.prog w = .ok () w' ∧ SetP w' b (c + 1) (L ++ [n]) ∧ Chg (· = b) w w' := by
  obtain ⟨D, hm, hr⟩ := h.ex
  obtain ⟨w', hrun, ho, es, clock, es', clock', hb, rfl⟩ := hm.store intKey Tryz.underlying124 (by unfold maxLen; omega) (Maps.keyOf_int_mk Tryz.underlying3 hn) eElem_mk
  refine ⟨_, hrun, ⟨⟨_, ho, fun z => ?_⟩⟩, ⟨rfl, rfl, rfl, by simp [ChangeMaps.setBlock], fun k _ hk => ?_⟩⟩
  · have kk : WideAt.IsKeyLit (Lit.int .i64 n) := trivial
    by_cases e : z = n
    · subst e
      rw [Maps.has_put_same hm.isMap kk]
      simp
    · rw [Maps.has_put_other (fun h => e (by injection h)), hr]
      simp [e]
  · simp only [ChangeMaps.setBlock, Array.getElem?_setIfInBounds]
    rw [if_neg (fun e => hk e.symm)]
end Tr
end Go.Proofs.YtoifhcmgeackdaaGreatDoor

/-
  A list under way (list.add).
-/
namespace Go.Proofs.YtoifhcmgeackdaaGreatDoor
open Go.RowKit Go.Maps
namespace Tr
open Num (hid)
open Mem (Bs bs ptr Chg tI tIs)
open Sh (ShL St Two Wf)
open Sp (Hd)
open Ch (pV ints)
abbrev tLs : TypeId := 126
structure Ls (s d N lb mb : Nat) (vp : Value) (L : List Int) (w : World) : Prop where
  bx : w.heap[lb]? = some (.cells #[pV s, vp, .map (some mb)] tLs (0, 0))
  set : SetP w mb L.length L
  row : w.ownsRow 0 tI 1 vp L.length (ints L)
  bl : N ≤ lb ∧ lb ≠ s ∧ lb ≠ d
  bm : N ≤ mb ∧ mb ≠ s ∧ mb ≠ d
  lm : lb ≠ mb
  rv : ∀ g, vp.ownBlock = some g → N ≤ g ∧ g ≠ s ∧ g ≠ d ∧ g ≠ lb ∧ g ≠ mb
  few : L.length ≤ 900000
/-- Which blocks it may turn. -/
def LsF (lb mb : Nat) (vp : Value) : Nat → Prop := fun g => g = lb ∨ g = mb ∨ vp.ownBlock = some g
variable {s d N lb mb : Nat} {vp : Value} {L : List Int} {w w' : World}
theorem Ls.apart {F : Nat → Prop} (k : Ls s d N lb mb vp L w) (hc : Chg F w w') (hF : ∀ g, F g → ¬ LsF lb mb vp g) : Ls s d N lb mb vp L w' :=
  ⟨hc.at k.bx (fun e => hF lb e (Or.inl rfl)), k.set.apart hc (fun e => hF mb e (Or.inr (Or.inl rfl))), Mem.row_kept k.row hc (fun g hg e => hF g e (Or.inr (Or.inr hg))), k.bl, k.bm, k.lm, k.rv, k.few⟩
theorem Ls.on (k : Ls s d N lb mb vp L w) (hb : Below w.heap.size w w') : Ls s d N lb mb vp L w' := k.apart (F := fun _ => False) (Chg.of_below hb) (fun _ h => h.elim)
theorem Ls.turned (k : Ls s d N lb mb vp L w) (hc : Chg (Two s d) w w') : Ls s d N lb mb vp L w' := k.apart hc (fun g e h => by
  rcases h with h | h | h
  · subst h; rcases e with e | e; exact k.bl.2.1 e; exact k.bl.2.2 e
  · subst h; rcases e with e | e; exact k.bm.2.1 e; exact k.bm.2.2 e
  · have := k.rv g h; rcases e with e | e; exact this.2.1 e; exact this.2.2.1 e)
/-- The shelf beside. -/
theorem shl_ls {cnt : Nat} {h : Hd} {lim arm : Int} {S : St} {w0 : World} (k : ShL s d N cnt lim h arm S w0 w) (l : Ls s d N lb mb vp L w) (hc : Chg (LsF lb mb vp) w w') : ShL s d N cnt lim h arm S w0 w' :=
  k.beside hc (fun g e => by
    rcases e with e | e | e
    · rw [e]; exact l.bl
    · rw [e]; exact l.bm
    · have := l.rv g e; exact ⟨this.1, this.2.1, this.2.2.1⟩)
/-- All of l are new, one behind the other. -/
def newM (L : List Int) : List Int → Bool
  | [] => true
  | n :: l => !decide (n ∈ L) && newM (L ++ [n]) l
theorem newM_take {L l : List Int} (h : newM L l = true) : ∀ (j : Nat) (hj : j < l.length), l[j] ∉ L ++ l.take j := by
  induction l generalizing L with
  | nil => intro j hj; simp at hj
  | cons a l ih =>
    unfold newM at h
    simp only [Bool.and_eq_true, Bool.not_eq_true', decide_eq_false_iff_not] at h
    intro j hj
    cases j with
    | zero => simpa using h.1
    | succ j =>
      have := ih h.2 j (by simpa using hj)
      simpa using this
def AddPost (s d N lb mb : Nat) (vp : Value) (L l : List Int) (w : World) (e : Ending) (w' : World) : Prop :=
  ∃ vp', e = .returned (.int .i64 0) ∧ Ls s d N lb mb vp' (L ++ l) w' ∧ (∀ g, vp'.ownBlock = some g → vp.ownBlock = some g ∨ w.heap.size ≤ g) ∧ Chg (LsF lb mb vp) w w'
set_option maxRecDepth 100000 in
set_option maxHeartbeats 8000000 in
/-- Where all are new. -/
theorem add_any (k : Ls s d N lb mb vp L w) (hN : N ≤ w.heap.size ∧ s < w.heap.size ∧ d < w.heap.size) {ao : Option Addr} {cap : Nat} {l : List Int} (hv : ∀ j (hj : j < l.length), ∃ g o, ao = some ⟨g, o, none⟩ ∧ g < w.heap.size ∧ ¬ LsF lb mb vp g ∧ w.cell? ⟨g, o + j, none⟩ = some (.int .i64 l[j])) (hw : ∀ x ∈ l, Wf x) (hnew : newM L l = true) (hlen : L.length + l.length ≤ 800000) :
    Calls Tryz.prog 109 #[ptr lb, .slice ao l.length cap] w (AddPost s d N lb mb vp L l w) := by
  have HV := hid hv
  have HW := hid hw
  have HNW := hid (newM_take hnew)
  have HN := hid hN
  have HK := hid k
  obtain ⟨nl, hnl⟩ : ∃ nl, nl = l.length := ⟨_, rfl⟩
  have HNL := hid hnl
  rw [← hnl]
  have hnl2 : nl ≤ 800000 := by omega
  have HLEN := hid hlen
  clear hv hw hnew hN k hlen hnl
  go_enter Tryz.func109, Tryz.ntmps109
  go_wp2_with fail
  go_loopw [11] (fun iv wr => ∃ (j : Nat) (vq : Value), iv = .int .i64 (j : Int) ∧ j ≤ nl ∧ Hid (Ls s d N lb mb vq (L ++ l.take j) wr) ∧ Hid (Chg (LsF lb mb vp) w wr) ∧ Hid (∀ g, vq.ownBlock = some g → vp.ownBlock = some g ∨ w.heap.size ≤ g)) (fun iv _ => nl - (intOf iv).toNat)
  case atStart => exact ⟨0, vp, rfl, Nat.zero_le _, by simpa using HK, hid (Chg.refl _ _), hid (fun g e => Or.inl e)⟩
  case round =>
    obtain ⟨j, vq, rfl, hj, HL, HC, HQ⟩ := hrel
    by_cases hlt : j < nl
    · have hle : (j : Int) < (nl : Int) := by omega
      have hjl : j < l.length := by have := HNL.out; omega
      obtain ⟨g, o, rfl, hgl, hgF, c0⟩ := HV.out j hjl
      have y0 := (HC.out.cell (i := o + j) hgl hgF).trans c0
      have hnot := HNW.out j hjl
      have hwf := HW.out _ (List.getElem_mem hjl)
      have htk : l.take (j + 1) = l.take j ++ [l[j]] := by rw [List.take_add_one, List.getElem?_eq_getElem hjl]; rfl
      have HTK : Hid (L ++ l.take (j + 1) = (L ++ l.take j) ++ [l[j]]) := hid (by rw [htk, List.append_assoc])
      generalize l[j] = x at *
      generalize hLj : L ++ l.take j = Lj at *
      have hlj : Lj.length ≤ 800000 := by
        have := HLEN.out
        rw [← hLj, List.length_append, List.length_take]
        omega
      have hlook := HL.out.set.look (n := x) hwf
      rw [decide_eq_false hnot] at hlook
      have x0 := Mem.blk_cell HL.out.bx 0
      have x1 := Mem.blk_cell HL.out.bx 1
      have x2 := Mem.blk_cell HL.out.bx 2
      have hlb := lt_of_block HL.out.bx
      have ba : Below wr.heap.size wr (wr.alloc (.cells #[] tNil)) := (Below.refl _ _).alloc (Nat.le_refl _) _
      have L1 := hid (HL.out.on ba)
      obtain ⟨w2, hput, hset, hch2⟩ := L1.out.set.put hwf (by omega)
      have L2b := hid (hch2.at L1.out.bx (fun e => HL.out.lm e))
      have R2 := hid (Mem.row_kept L1.out.row hch2 (fun g hg e => (HL.out.rv g hg).2.2.2.2 e))
      have S2 := hid hset
      have C2 : Hid (Chg (LsF lb mb vp) w w2) := hid ((HC.out.trans (Chg.of_below ba)).trans (hch2.mono (fun g _ e => Or.inr (Or.inl e))))
      obtain ⟨v3, w3, hap, ho3, hc3, hg3⟩ := Mem.push_int R2.out x (by omega)
      have hs23 : wr.heap.size ≤ w2.heap.size := Nat.le_trans ba.size hch2.size
      have B3 := hid (hc3.at L2b.out (fun e => by have := HL.out.rv lb e; exact this.2.2.2.1 rfl))
      have z0 := Mem.blk_cell B3.out 0
      have z1 := Mem.blk_cell B3.out 1
      have z2 := Mem.blk_cell B3.out 2
      have q1 := Mem.blk_free B3.out 1
      have y0' := Mem.blk_cell L2b.out 1
      have y2' := Mem.blk_cell L2b.out 0
      have hlb2 := lt_of_block L2b.out
      have hlb3 := lt_of_block B3.out
      have k0 := Mem.blk_cell L1.out.bx 2
      obtain ⟨aoq, capq, hvq, -⟩ := Mem.row_shape HL.out.row
      obtain ⟨ao3, cap3, rfl, -⟩ := Mem.row_shape ho3
      subst hvq
      have hne3 : ∀ g, (Value.slice ao3 (Lj.length + 1) cap3).ownBlock = some g → N ≤ g ∧ g ≠ s ∧ g ≠ d ∧ g ≠ lb ∧ g ≠ mb := fun g hg => by
        rcases hg3 g hg with e | e
        · exact HL.out.rv g e
        · have h1 := HN.out
          have h2 := HC.out.size
          have h3 := hlb
          have h4 := HL.out.set.lt
          exact ⟨by omega, by omega, by omega, by omega, by omega⟩
      have LF : Hid (Ls s d N lb mb (.slice ao3 (Lj.length + 1) cap3) (Lj ++ [x]) (w3.setCell ⟨lb, 1, none⟩ (.slice ao3 (Lj.length + 1) cap3))) := hid (by
        have hset1 : Chg (· = lb) w3 (w3.setCell ⟨lb, 1, none⟩ (.slice ao3 (Lj.length + 1) cap3)) := (Chg.refl _ _).root 1 _
        refine ⟨Mem.blk_set B3.out 1 _, ?_, ?_, HL.out.bl, HL.out.bm, HL.out.lm, hne3, by rw [List.length_append, List.length_singleton]; omega⟩
        · rw [List.length_append, List.length_singleton]
          exact (S2.out.apart hc3 (fun e => (HL.out.rv mb e).2.2.2.2 rfl)).apart hset1 (fun e => HL.out.lm e.symm)
        · rw [List.length_append, List.length_singleton]
          have e : ints (Lj ++ [x]) = ints Lj ++ [.int .i64 x] := by simp [ints]
          rw [e]
          exact Mem.row_kept ho3 hset1 (fun g hg e => (hne3 g hg).2.2.2.1 e))
      have CF : Hid (Chg (LsF lb mb vp) w (w3.setCell ⟨lb, 1, none⟩ (.slice ao3 (Lj.length + 1) cap3))) := hid ((C2.out.then hc3 (fun i _ e => by
        rcases HQ.out i e with e | e
        · exact Or.inr (Or.inr (Or.inr e))
        · exact Or.inl e)).setCell (Or.inr (Or.inl rfl)) _)
      have QF : Hid (∀ g, (Value.slice ao3 (Lj.length + 1) cap3).ownBlock = some g → vp.ownBlock = some g ∨ w.heap.size ≤ g) := hid (fun g hg => by
        rcases hg3 g hg with e | e
        · exact HQ.out g e
        · have := HC.out.size; exact Or.inr (by omega))
      clear htk hnot hwf hch2 hset ba hs23 hc3 hg3 ho3 hne3 c0 hgF
      go_wp2_with (at_builtin; refine Mem.wpList_append_run rfl _ _ _ _ rfl _ _ rfl rfl hap ?_)
      go_roundw
      case rel => exact ⟨j + 1, _, by go_num, by omega, hid (by rw [HTK.out]; exact LF.out), CF, QF⟩
      case measure => simp [intOf]; omega
    · have hle : ¬ (j : Int) < (nl : Int) := by omega
      go_wp2
      go_ret
      have e : l.take j = l := List.take_of_length_le (by have := HNL.out; omega)
      have h1 := HL.out
      rw [e] at h1
      exact ⟨vq, rfl, h1, HQ.out, HC.out⟩
end Tr
end Go.Proofs.YtoifhcmgeackdaaGreatDoor
