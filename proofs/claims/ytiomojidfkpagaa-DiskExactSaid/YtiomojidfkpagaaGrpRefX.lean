/-
  Put together: RefPair, RefZeros, RefExactM.
-/
import Derived.Test.YtiomojidfkpagaaRefSays
import Derived.Test.YtiomojidfkpagaaGrpRefF
import Derived.Test.YtiomojidfkpagaaDiskBytes
import Derived.Lib.AppendStr
import Derived.Test.YtiomojidfkpagaaGrpDskE
import Derived.Test.YtiomojidfkpagaaDiskAwake
import Derived.BigQuiet
import Derived.Deep.QuietTactic
/-
  The project's disk beside the reference's, the acts' memory apart from both.
-/
namespace Go.Proofs.Ytiomojidfkpagaa
open Go.RowKit
namespace Ref
open Disk

/-- Both disks are M; the reference's blocks are none of the project's, and none of those below N. -/
def Pair (N : Nat) (O R : Nat → Prop) (d m r : Nat) (M : Mod) (w : World) : Prop := Sees O d m M w ∧ Refs R r M w ∧ (∀ k, R k → O k) ∧ (∀ k, R k → N ≤ k) ∧ N ≤ w.heap.size
/-- Behind the project's call: what the reference's call wants. -/
theorem Pair.mid {N : Nat} {O R : Nat → Prop} {d m r : Nat} {M M' : Mod} {w w1 : World} (h : Pair N O R d m r M w) (hst : Stays O w w1) (hG : Good M) (hM : M' = M) : RSees (fun k => R k ∨ w1.heap.size ≤ k) r M' w1 := by
  obtain ⟨-, h2, h3, -, -⟩ := h
  rw [hM]
  exact ⟨(h2.apart hst (fun k hk hR => hk (h3 k hR))).mono (fun g _ hg => Or.inl hg), hG, fun b hb => Or.inr hb⟩
/-- Behind the reference's call: both again. -/
theorem Pair.step {N : Nat} {O R : Nat → Prop} {d m r : Nat} {M M' : Mod} {w w1 w2 : World} (h : Pair N O R d m r M w) (hs : Sees O d m M' w1) (hst : Stays O w w1) (hr : Refs (fun k => R k ∨ w1.heap.size ≤ k) r M' w2) (hc : Chg (fun k => R k ∨ w1.heap.size ≤ k) w1 w2) :
    Pair N (fun k => O k ∨ (w1.heap.size ≤ k ∧ k < w2.heap.size)) (fun k => R k ∨ (w1.heap.size ≤ k ∧ k < w2.heap.size)) d m r M' w2 := by
  obtain ⟨-, -, h3, h4, h5⟩ := h
  have z1 := hst.size
  have z2 := hc.size
  refine ⟨Sees.beside hs hc (fun k hk hlt => ?_), hr.mono (fun g hg hO => ?_), fun k hk => ?_, fun k hk => ?_, by omega⟩
  · rcases hk with hk | hk
    · exact h3 k hk
    · omega
  · rcases hO with hO | hO
    · exact Or.inl hO
    · exact Or.inr ⟨hO, hg⟩
  · rcases hk with hk | hk
    · exact Or.inl (h3 k hk)
    · exact Or.inr hk
  · rcases hk with hk | hk
    · exact h4 k hk
    · omega
end Ref
end Go.Proofs.Ytiomojidfkpagaa

/-
  A law that the library lacks: 'append(b, make([]byte, n)...)', which the model does in one step: n bytes 0 more.
-/
namespace Go.Proofs.Ytiomojidfkpagaa
open Go.RowKit
namespace Ref
open Disk
open Num (hid bcells)
open Go.Lib

def zerosS : ByteArray := ⟨(List.replicate 256 0).toArray⟩
theorem zerosS_size : zerosS.size = 256 := by show (List.replicate 256 (0 : UInt8)).toArray.size = 256; rw [List.size_toArray, List.length_replicate]
theorem zeroCells_map (N : Nat) : Builtin.zeroCells #[Value.int .u8 0] N = ((List.replicate N (0 : UInt8)).toArray.map fun b => Value.int .u8 b.toNat) := by
  apply Array.ext
  · simp [Builtin.zeroCells]
  · intro j h1 h2
    simp [Builtin.zeroCells, Nat.mod_one]
theorem zerosS_cells : Builtin.zeroCells (Value.int .u8 0).cells 256 = (zerosS.data.map fun b => Value.int .u8 b.toNat) := by
  exact zeroCells_map 256
set_option maxRecDepth 100000 in
theorem zeros_eq {P : Program} {w : World} (t ti u ty e : TypeId) (i : TypeInfo) (ht : P.underlying t = some (.slice e)) (hti : P.underlying ti = some (.int .i64)) (hu : P.underlying u = some .string) (hi : P.info? e = some i) (hz : i.zero = some (.int .u8 0)) (hsize : i.size = 1) (hby : i.bytes = 1)
    (ao : Option Addr) (n cap : Nat) (h63 : n + 256 ≤ 9223372036854775807) (hlim : ¬ n + 256 ≤ cap → Builtin.nextslicecap (n + 256) cap ≤ 281474976710656) :
    (Builtin.append_ #[t, ti] ty #[.slice ao n cap, .int .i64 256]).run P w = (Builtin.append_ #[t, u] ty #[.slice ao n cap, .string zerosS]).run P w := by
  have hf : ∀ w, (Builtin.firstCells 1 256 (.string zerosS)).run P w = .ok (Builtin.zeroCells (Value.int .u8 0).cells 256) w := by
    intro w
    have := run_firstCells_string (P := P) w 1 zerosS
    rw [zerosS_size] at this
    rw [this, zerosS_cells]
    congr 1
    apply Array.ext'
    simp [strCells]
  have hw : IntKind.i64.wrap 256 = 256 := by decide
  have h63' : ¬ (9223372036854775807 < ((n : Int) + 256)) := by omega
  by_cases hroom : n + 256 ≤ cap
  · cases ao <;> simp [Builtin.append_, run_underlying ht, run_underlying hti, run_underlying hu, sizeOf, typeInfo, zeroValue, hi, hz, hsize, hby, asInt, asIntOf, hw, Builtin.lenOf, zerosS_size, hroom, hf]
  · have hlim' : ¬ (281474976710656 < Builtin.nextslicecap (n + 256) cap) := by have := hlim hroom; omega
    cases ao <;> simp [Builtin.append_, run_underlying ht, run_underlying hti, run_underlying hu, sizeOf, typeInfo, zeroValue, hi, hz, hsize, hby, asInt, asIntOf, hw, Builtin.lenOf, zerosS_size, hroom, hf, h63', hlim']
    all_goals (intro hbig; exfalso; omega)

theorem strCells_b (s : ByteArray) : strCells s = bcells s.data.toList := rfl
/-- A sector's bytes, appended. -/
theorem bytes_str {w wr : World} {F : Fil} {j : Nat} {o : Value} (hB : BytesAt w F j o wr) (hj : j < F.ps.length) (hps : ∀ p ∈ F.ps, (p.now.getD zeros).length = 256) (hl : F.ps.length ≤ 20000) (bx : Array Value) (s : ByteArray) (hs : s.data.toList = F.ps[j].now.getD zeros) :
    ∃ v' w', (Builtin.append_ #[103, tStr] 103 #[o, .string s]).run Try.prog (wr.alloc (.cells bx tC)) = .ok v' w' ∧ BytesAt w F (j + 1) v' w' := by
  obtain ⟨hrow, hbel, hne⟩ := hB
  obtain ⟨i, hi, h0, h1, h2⟩ := byteInfo
  have hlen := bytesTo_len F hps j (by omega)
  have hsl : s.size = 256 := by
    have : s.data.toList.length = 256 := by rw [hs]; exact hps _ (List.getElem_mem hj)
    simpa using this
  obtain ⟨v', w', hr, ho, hg, hnil⟩ := run_append_own_string (P := Try.prog) (w := wr.alloc (.cells bx tC)) w.heap.size 103 tStr 103 5 i Try.underlying103 Try.underlying9 hi h0 h1 h2 o (bytesTo F j).length (bcells (bytesTo F j)) (hrow.alloc _) s (by unfold maxLen; omega) (by omega) (by have := hbel.size; simp; omega)
  refine ⟨v', w', hr, ?_, (hbel.alloc hbel.size _).grown hg (by have := hbel.size; simp; omega) (fun k hk => (hrow.lt k hk).1), fun e => by have := (hnil.1 e).2; omega⟩
  rw [bytesTo_next F j hj, strCells_b, hs] at *
  have e : bcells (bytesTo F j ++ F.ps[j].now.getD zeros) = bcells (bytesTo F j) ++ bcells (F.ps[j].now.getD zeros) := by unfold bcells; rw [List.map_append]
  rw [e, List.length_append, hps _ (List.getElem_mem hj), ← hsl]
  exact ho
theorem bytes_zero {w wr : World} {F : Fil} {j : Nat} {o : Value} (hB : BytesAt w F j o wr) (hj : j < F.ps.length) (hps : ∀ p ∈ F.ps, (p.now.getD zeros).length = 256) (hl : F.ps.length ≤ 20000) (bx : Array Value) (hs : F.ps[j].now = none) :
    ∃ v' w', (Builtin.append_ #[103, 3] 103 #[o, .int .i64 256]).run Try.prog (wr.alloc (.cells bx tC)) = .ok v' w' ∧ BytesAt w F (j + 1) v' w' := by
  obtain ⟨v', w', hr, h⟩ := bytes_str hB hj hps hl bx zerosS (by rw [hs]; rfl)
  refine ⟨v', w', ?_, h⟩
  rw [← hr]
  obtain ⟨hrow, hbel, hne⟩ := hB
  obtain ⟨i, hi, h0, h1, h2⟩ := byteInfo
  have hlen := bytesTo_len F hps j (by omega)
  have hsh : ∃ ao cap, o = .slice ao (bytesTo F j).length cap := by
    rcases hrow.2 with ⟨rfl, hn⟩ | ⟨g, cap, cur, rfl, _⟩
    · rw [hn]; exact ⟨none, 0, rfl⟩
    · exact ⟨_, cap, rfl⟩
  obtain ⟨ao, cap, rfl⟩ := hsh
  exact zeros_eq 103 3 tStr 103 5 i Try.underlying103 Try.underlying3 Try.underlying9 hi h0 h1 h2 ao _ cap (by omega) (fun hn => by
    have := growslice_fits (need := (bytesTo F j).length + 256) (old := cap) (bytes := 1) (by omega) (by omega)
    omega)

section
variable {R : Nat → Prop} {w : World} {r : Nat} {v : Value} {E : Ens} {c : Ctl} {a k m : Int}
set_option maxRecDepth 100000 in
set_option maxHeartbeats 2000000 in
theorem rbytes_any (h : DiskR R w r v E c a k m) (hE : E.length ≤ 100) (hl : ∀ x ∈ E, x.2.2.ps.length ≤ 20000) (hps : ∀ x ∈ E, ∀ p ∈ x.2.2.ps, (p.now.getD zeros).length = 256) (s : ByteArray) :
    Calls Try.prog 23 #[ptr r, .string s] w fun e w' => e = .returned (.string ⟨((⟨c, Ens.dir E⟩ : Mod).bytes s.data.toList).toArray⟩) ∧ Below w.heap.size w w' := by
  have H := hid h
  have hrow := h.row.1
  obtain ⟨ao, cap, rfl, hao⟩ := row_shape hrow
  obtain ⟨q0, -⟩ := h.roots
  clear h hrow
  go_enter Try.func23, Try.ntmps23
  go_wp2_with fail
  refine (place_any H.out hE s).mono ?_
  rintro e w1 ⟨⟨i, rfl, hp⟩, rfl⟩
  rcases place_get hp with ⟨n, hn, rfl, hget, hnm⟩ | ⟨rfl, hget⟩
  · have hby : Hid ((⟨c, Ens.dir E⟩ : Mod).bytes s.data.toList = E[n].2.2.bytes) := hid (by unfold Mod.bytes; rw [hget])
    obtain ⟨g, rfl, hg⟩ := hao (by omega)
    have hln := hl E[n] (List.getElem_mem hn)
    have hpn := hps E[n] (List.getElem_mem hn)
    have hst : Hid (BytesAt w E[n].2.2 0 (.slice (some ⟨w.heap.size, 0, none⟩) 0 0) (w.alloc (.cells #[] 5))) := hid ⟨World.ownsRow_made w #[] 0 (Nat.le_refl _) (by decide) rfl, (Below.refl _ _).alloc (Nat.le_refl _) _, by simp⟩
    clear hget hp hnm q0 hao hl hps
    go_wp2
    go_loopw [6, 7] (fun o i wr => ∃ j : Nat, j ≤ E[n].2.2.ps.length ∧ i = .int .i64 j ∧ BytesAt w E[n].2.2 j o wr) (fun _ i _ => E[n].2.2.ps.length - (intOf i).toNat)
    case atStart => exact ⟨0, Nat.zero_le _, rfl, hst.out⟩
    case round =>
      obtain ⟨j, hj, rfl, hB⟩ := hrel
      have HB := hid hB
      have D := H.out.kept (F := fun _ => False) (Chg.of_below hB.2.1) (fun h => h) (fun _ _ h => h) (Apart.none w)
      obtain ⟨q0, -⟩ := D.roots
      obtain ⟨aN, cN, aS, cS, aW, cW, eN, -, -, x0, x1, x2, x3, x4⟩ := D.file hn
      have hf := (D.files E[n] (List.getElem_mem hn)).now.1
      rw [eN] at hf
      have hgr : g < wr.heap.size := Nat.lt_of_lt_of_le hg hB.2.1.size
      have hrr := lt_of_block D.blk
      clear hB D hst eN
      by_cases hlt : j < E[n].2.2.ps.length
      · obtain ⟨gN, rfl, hgN⟩ : ∃ gN, aN = some ⟨gN, 0, none⟩ ∧ gN < wr.heap.size := by
          obtain ⟨ao', cap', e, h⟩ := row_shape hf
          cases e
          exact h (by omega)
        obtain ⟨y0, y1, y2⟩ := nows_at E[n].2.2.ps j hlt
        have t0 := (hf.cellAt (j * 3) (by omega)).trans y0
        have t1 := (hf.cellAt (j * 3 + 1) (by omega)).trans y1
        have t2 := (hf.cellAt (j * 3 + 2) (by omega)).trans y2
        clear hf y0 y1 y2
        cases hnow : E[n].2.2.ps[j].now with
        | none =>
          rw [hnow] at t1 t2
          have t2' : wr.cell? ⟨gN, j * 3 + 2, none⟩ = some (.bool true) := t2
          have t1' : wr.cell? ⟨gN, j * 3 + 1, none⟩ = some (.string ⟨#[]⟩) := t1
          obtain ⟨v', w', hr, hB'⟩ := bytes_zero HB.out hlt hpn hln #[.bool true, .string ⟨#[]⟩, .bool true] hnow
          have HR := hid hr
          have HB' := hid hB'
          clear t2 t1 hr hB' hnow
          go_wp2_with (at_builtin; refine wpList_append_run rfl (.tmp 45) (.const (.int .i64 256)) 103 3 rfl _ _ (by simp [Act.eval]) (by simp [Act.eval]) HR.out ?_)
          go_roundw
          case rel => exact ⟨j + 1, by omega, by go_num, HB'.out⟩
          case measure => simp [intOf]; omega
        | some l =>
          rw [hnow] at t1 t2
          have t2' : wr.cell? ⟨gN, j * 3 + 2, none⟩ = some (.bool false) := t2
          have t1' : wr.cell? ⟨gN, j * 3 + 1, none⟩ = some (.string ⟨l.toArray⟩) := t1
          obtain ⟨v', w', hr, hB'⟩ := bytes_str HB.out hlt hpn hln #[.bool true, .string ⟨l.toArray⟩, .bool false] ⟨l.toArray⟩ (by rw [hnow]; rfl)
          have HR := hid hr
          have HB' := hid hB'
          clear t2 t1 hr hB' hnow
          go_wp2_with (at_builtin; refine wpList_append_run rfl (.tmp 47) (.tmp 49) 103 tStr rfl _ _ (by simp [Act.eval]) (by simp [Act.eval]) HR.out ?_)
          go_roundw
          case rel => exact ⟨j + 1, by omega, by go_num, HB'.out⟩
          case measure => simp [intOf]; omega
      · obtain rfl : j = E[n].2.2.ps.length := by omega
        have hcv := conv_any HB.out.1 HB.out.2.2
        have hall : bytesTo E[n].2.2 E[n].2.2.ps.length = E[n].2.2.bytes := by unfold bytesTo Fil.bytes; rw [List.take_of_length_le (Nat.le_refl _)]
        have HALL := hid hall
        clear hf hall
        go_wp2
        go_ret
        exact ⟨ret_str (by rw [hby.out, HALL.out]), HB.out.2.1⟩
  · have hby : Hid ((⟨c, Ens.dir E⟩ : Mod).bytes s.data.toList = []) := hid (by unfold Mod.bytes; rw [hget])
    clear hget hp q0 hao hl hps
    have hcv := conv_any (w := w.alloc (.cells #[] 5)) (base := w.heap.size) (v := .slice (some ⟨w.heap.size, 0, none⟩) 0 0) (l := []) (World.ownsRow_made w #[] 0 (Nat.le_refl _) (by decide) rfl) (by simp)
    go_wp2
    go_loopw [6, 7] (fun o i wr => o = .slice (some ⟨w.heap.size, 0, none⟩) 0 0 ∧ i = .int .i64 0 ∧ wr = w.alloc (.cells #[] 5)) (fun _ _ _ => 0)
    case atStart => exact ⟨rfl, rfl, rfl⟩
    case round =>
      obtain ⟨rfl, rfl, rfl⟩ := hrel
      go_wp2
      go_ret
      exact ⟨ret_str hby.out.symm, (Below.refl _ _).alloc (Nat.le_refl _) _⟩
end
end Ref
end Go.Proofs.Ytiomojidfkpagaa

/-
  Both disks side by side, as DiskExact's walk asks them: what each answers, and what stays.
-/
namespace Go.Proofs.Ytiomojidfkpagaa
open Go.RowKit
namespace Ref
open Disk
open Num (hid bcells)
section
variable {R : Nat → Prop} {r : Nat} {M : Mod} {w w' : World}
theorem Refs.on (h : Refs R r M w) (hb : Below w.heap.size w w') : Refs R r M w' := h.apart (F := fun _ => False) (Chg.of_below hb) (fun _ h => h.elim)
theorem ops_ref (h : Refs R r M w) : Calls Try.prog 15 #[ptr r] w fun e w' => e = .returned (.int .i64 M.c.ops) ∧ w = w' := by
  obtain ⟨v, E, a, k, m, D, -⟩ := h
  exact rops_any D
theorem life_ref (h : Refs R r M w) : Calls Try.prog 17 #[ptr r] w fun e w' => e = .returned (.int .i64 M.c.life) ∧ w = w' := by
  obtain ⟨v, E, a, k, m, D, -⟩ := h
  exact rlife_any D
theorem down_ref (h : Refs R r M w) : Calls Try.prog 19 #[ptr r] w fun e w' => e = .returned (.bool M.c.down) ∧ w = w' := by
  obtain ⟨v, E, a, k, m, D, -⟩ := h
  exact rdown_any D
theorem size_ref (h : Refs R r M w) (hG : Good M) (s : ByteArray) : Calls Try.prog 21 #[ptr r, .string s] w fun e w' => e = .returned (.int .i64 (M.size s.data.toList)) ∧ w = w' := by
  obtain ⟨v, E, a, k, m, D, hE⟩ := h
  have H := rsize_any D (few_ens hG hE) s
  rw [hE] at H
  exact H
theorem bytes_ref (h : Refs R r M w) (hG : Good M) (s : ByteArray) : Calls Try.prog 23 #[ptr r, .string s] w fun e w' => e = .returned (.string ⟨(M.bytes s.data.toList).toArray⟩) ∧ Below w.heap.size w w' := by
  obtain ⟨v, E, a, k, m, D, hE⟩ := h
  have hmem : ∀ x ∈ E, x.2 ∈ M.fs := fun x hx => by rw [← hE]; exact List.mem_map_of_mem hx
  have H := rbytes_any D (few_ens hG hE) (fun x hx => Nat.le_trans (hG.lens _ (hmem x hx)) (by decide)) (fun x hx => hG.secs _ (hmem x hx)) s
  rw [hE] at H
  exact H
theorem names_ref (h : Refs R r M w) (hG : Good M) : Calls Try.prog 26 #[ptr r] w fun e w' => ∃ u, e = .returned u ∧ w'.ownsRow w.heap.size tStr 1 u M.names.length (M.names.map fun l => Value.string ⟨l.toArray⟩) ∧ Below w.heap.size w w' := by
  obtain ⟨v, E, a, k, m, D, hE⟩ := h
  have H := rnames_any D (few_ens hG hE)
  rw [hE] at H
  refine H.mono ?_
  rintro e w2 ⟨u, rfl, hr, hb⟩
  refine ⟨u, rfl, ?_, hb⟩
  unfold Mod.names
  rw [List.length_map, List.map_map]
  exact hr
theorem Refs.root_lt (h : Refs R r M w) : R r ∧ r < w.heap.size := by
  obtain ⟨v, E, a, k, m, D, -⟩ := h
  exact ⟨D.own, lt_of_block D.blk⟩
end
theorem life_sees {O : Nat → Prop} {d m : Nat} {M : Mod} {w : World} (h : Sees O d m M w) : Calls Try.prog 16 #[ptr d] w fun e w' => e = .returned (.int .i64 M.c.life) ∧ w = w' := by
  obtain ⟨tag, L, D, hL, hN, hz⟩ := h
  exact life_any d m M.c w D.root.blk
/-- Both disks, and the memory that the acts lie in. -/
structure Duo (N d m r : Nat) (M : Mod) (w : World) : Prop where
  ex : ∃ O R, Pair N O R d m r M w ∧ ∀ k, k < N → O k
theorem Duo.new {w w1 w2 w3 : World} {room : Int} (h1 : w.heap.size ≤ w1.heap.size) (h2 : Has w1.heap.size (w1.heap.size + 1) w1.heap.size (Mod.new room) w2) (h3 : Refs (fun k => k = w2.heap.size) w2.heap.size (Mod.new room) w3) (hb : Below w2.heap.size w2 w3) (hz : w1.heap.size ≤ w2.heap.size) :
    Duo w.heap.size (w1.heap.size + 1) w1.heap.size w2.heap.size (Mod.new room) w3 := by
  have hlt := h3.root_lt.2
  refine ⟨_, _, ⟨(Sees.of_has h2).more hb, h3, fun k hk => ?_, fun k hk => ?_, ?_⟩, fun k hk => Or.inl (by omega)⟩
  · subst hk
    exact Or.inr ⟨Nat.le_refl _, hlt⟩
  · subst hk
    omega
  · have := hb.size; omega
theorem okS {N : Nat} {w : World} {x : ActM} (h : ActOk N w x) {O : Nat → Prop} (hO : ∀ k, k < N → O k) : ActOkS O w x := ⟨h.name, h.n, h.len, h.ints, h.few, fun b o n cap e hn => hO b (h.old b o n cap e hn)⟩
/-- An act on the project's disk, then on the reference's. -/
theorem Duo.act {N d m r : Nat} {M : Mod} {w : World} (h : Duo N d m r M w) (x : ActM) (hx : ActOk N w x) :
    Calls Try.prog 12 #[ptr d, .agg x.cells] w fun e w1 => e = .returned (.tuple #[.string ⟨(M.does x).1.toArray⟩, .int .i64 (M.does x).2.1]) ∧ Below N w w1 ∧
      Calls Try.prog 13 #[ptr r, .agg x.cells] w1 fun e w2 => e = .returned (.tuple #[.string ⟨(M.does x).1.toArray⟩, .int .i64 (M.does x).2.1]) ∧ Below N w w2 ∧ Duo N d m r (M.does x).2.2 w2 := by
  obtain ⟨O, R, hP, hO⟩ := h
  refine (doesS_any hP.1 x (okS hx hO)).mono ?_
  rintro e w1 ⟨rfl, hS, hst⟩
  have hN : N ≤ w.heap.size := hP.2.2.2.2
  have hB1 : Below N w w1 := Chg.below hst hN (fun k hk hn => hn (hO k hk))
  refine ⟨rfl, hB1, ?_⟩
  have hM := hP.mid (M' := M) hst (Sees.good hP.1) rfl
  have hx1 : ActOk N w1 x := ⟨hx.name, hx.n, hx.len, hx.ints.onOld hB1 hx.old, hx.few, hx.old⟩
  have hRN : ∀ k, (R k ∨ w1.heap.size ≤ k) → N ≤ k := by
    rintro k (hk | hk)
    · exact hP.2.2.2.1 k hk
    · exact Nat.le_trans hN (Nat.le_trans hst.size hk)
  refine (says_any hM x (okS hx1 (fun k hk hR => by have := hRN k hR; omega))).mono ?_
  rintro e w2 ⟨rfl, hr, hc⟩
  refine ⟨rfl, hB1.trans (hc.below (Nat.le_trans hN hst.size) (fun k hk hR => by have := hRN k hR; omega)), ?_⟩
  exact ⟨_, _, hP.step hS hst hr hc, fun k hk => Or.inl (hO k hk)⟩
/-- What both answer when they are looked at. -/
structure Duo.Looks (d r : Nat) (M : Mod) (wq : World) : Prop where
  ops : ∀ wx, Below wq.heap.size wq wx → Calls Try.prog 14 #[ptr d] wx fun e w' => e = .returned (.int .i64 M.c.ops) ∧ wx = w'
  rops : ∀ wx, Below wq.heap.size wq wx → Calls Try.prog 15 #[ptr r] wx fun e w' => e = .returned (.int .i64 M.c.ops) ∧ wx = w'
  life : ∀ wx, Below wq.heap.size wq wx → Calls Try.prog 16 #[ptr d] wx fun e w' => e = .returned (.int .i64 M.c.life) ∧ wx = w'
  rlife : ∀ wx, Below wq.heap.size wq wx → Calls Try.prog 17 #[ptr r] wx fun e w' => e = .returned (.int .i64 M.c.life) ∧ wx = w'
  down : ∀ wx, Below wq.heap.size wq wx → Calls Try.prog 18 #[ptr d] wx fun e w' => e = .returned (.bool M.c.down) ∧ wx = w'
  rdown : ∀ wx, Below wq.heap.size wq wx → Calls Try.prog 19 #[ptr r] wx fun e w' => e = .returned (.bool M.c.down) ∧ wx = w'
  size : ∀ wx, Below wq.heap.size wq wx → ∀ s : ByteArray, s.size ≤ maxLen → Calls Try.prog 20 #[ptr d, .string s] wx fun e w' => e = .returned (.int .i64 (M.size s.data.toList)) ∧ wx = w'
  rsize : ∀ wx, Below wq.heap.size wq wx → ∀ s : ByteArray, s.size ≤ maxLen → Calls Try.prog 21 #[ptr r, .string s] wx fun e w' => e = .returned (.int .i64 (M.size s.data.toList)) ∧ wx = w'
  bytes : ∀ wx, Below wq.heap.size wq wx → ∀ s : ByteArray, s.size ≤ maxLen → Calls Try.prog 22 #[ptr d, .string s] wx fun e w' => e = .returned (.string ⟨(M.bytes s.data.toList).toArray⟩) ∧ Below wx.heap.size wx w'
  rbytes : ∀ wx, Below wq.heap.size wq wx → ∀ s : ByteArray, s.size ≤ maxLen → Calls Try.prog 23 #[ptr r, .string s] wx fun e w' => e = .returned (.string ⟨(M.bytes s.data.toList).toArray⟩) ∧ Below wx.heap.size wx w'
  names : ∀ wx, Below wq.heap.size wq wx → Calls Try.prog 24 #[ptr d] wx fun e w' => ∃ v, e = .returned v ∧ w'.ownsRow wx.heap.size tStr 1 v M.names.length (M.names.map fun l => Value.string ⟨l.toArray⟩) ∧ Below wx.heap.size wx w'
  rnames : ∀ wx, Below wq.heap.size wq wx → Calls Try.prog 26 #[ptr r] wx fun e w' => ∃ v, e = .returned v ∧ w'.ownsRow wx.heap.size tStr 1 v M.names.length (M.names.map fun l => Value.string ⟨l.toArray⟩) ∧ Below wx.heap.size wx w'
  few : M.names.length ≤ 8
  fit : Fits M.fs → ∀ n ∈ M.names, n.length ≤ 16
theorem Duo.looks {N d m r : Nat} {M : Mod} {w : World} (h : Duo N d m r M w) : Duo.Looks d r M w := by
  obtain ⟨O, R, hP, -⟩ := h
  have S := hP.1
  have F := hP.2.1
  have G := (Sees.good hP.1)
  refine ⟨fun wx hx => ops_sees (S.kept hx), fun wx hx => ops_ref (F.on hx), fun wx hx => life_sees (S.kept hx), fun wx hx => life_ref (F.on hx), fun wx hx => down_sees (S.kept hx), fun wx hx => down_ref (F.on hx),
    fun wx hx s hs => size_sees (S.kept hx) s hs, fun wx hx s _ => size_ref (F.on hx) G s, fun wx hx s hs => bytes_sees (S.kept hx) s hs, fun wx hx s _ => bytes_ref (F.on hx) G s, fun wx hx => names_sees (S.kept hx), fun wx hx => names_ref (F.on hx) G, ?_, fun hf n hn => name_small hf hn⟩
  have := G.few
  unfold Mod.names
  rw [List.length_map]
  exact this
theorem Duo.on {N d m r : Nat} {M : Mod} {w w' : World} (h : Duo N d m r M w) (hb : Below w.heap.size w w') : Duo N d m r M w' := by
  obtain ⟨O, R, ⟨h1, h2, h3, h4, h5⟩, hO⟩ := h
  exact ⟨O, R, ⟨h1.kept hb, h2.on hb, h3, h4, Nat.le_trans h5 hb.size⟩, hO⟩
theorem row_val {w : World} {base : Nat} {e : TypeId} {v : Value} {n : Nat} {xs : List Value} (h : w.ownsRow base e 1 v n xs) :
    ∃ ao cap, v = .slice ao n cap ∧ ∀ k, k < n → ∃ g, ao = some ⟨g, 0, none⟩ ∧ g < w.heap.size ∧ w.cell? ⟨g, k, none⟩ = xs[k]? := by
  have h0 := h
  rcases h.2 with ⟨rfl, hn⟩ | ⟨g, cap, cur, rfl, _, hb, _⟩
  · subst hn
    exact ⟨none, 0, rfl, fun k hk => absurd hk (Nat.not_lt_zero _)⟩
  · exact ⟨_, cap, rfl, fun k hk => ⟨g, rfl, lt_of_block hb, World.ownsRow.cellAt h0 k (by omega)⟩⟩
theorem acts_val {N : Nat} {w : World} {v : Value} {l : List ActM} (h : ActsAt N w v l) : ∃ ao cap, v = .slice ao l.length cap ∧ ∀ j (hj : j < l.length), ∃ b o, ao = some ⟨b, o, none⟩ ∧ b < N ∧ ∀ i, i < 6 → w.cell? ⟨b, o + j * 6 + i, none⟩ = l[j].cells[i]? := by
  rcases h.1 with ⟨ao, cap, rfl, rfl⟩ | ⟨b, o, cap, rfl, hb, hl⟩
  · exact ⟨ao, cap, rfl, fun j hj => absurd hj (Nat.not_lt_zero _)⟩
  · exact ⟨_, cap, rfl, fun j hj => ⟨b, o, rfl, hb, fun i hi => hl j hj i hi⟩⟩
theorem wp_quiet_in {P : Program} {id : Nat} {Q : Exit → Act → World → Prop} {a : Act} {w : World} {l : List Oper} (C : World → Prop) (hm : P.follows .mixedOrders = true) (hB : Region.lexB .any l.toArray = true) (hC : C w.drew)
    (h : wpQuiet P l.toArray C (fun a' => ∀ w', C w' → Q .normal a' w') l a) : (Code.region id l.toArray true).wp P Q a w :=
  wp_region_quiet (C := C) hm hB hC (by simpa using h)
end Ref
end Go.Proofs.Ytiomojidfkpagaa
