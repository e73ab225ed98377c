/-
  A law that the library lacks: 'append(b, make([]byte, n)...)', which the model does in one step: n bytes 0 more.
-/
import Derived.Test.YtgmbiiocjhkpdaaGreatGrpJRa
import Derived.Test.YtgmbiiocjhkpdaaGreatGrpLgN
import Derived.Lib.AppendStr
namespace Go.Proofs.YtgmbiiocjhkpdaaGreat
open Go.RowKit
namespace Ref
open Disk
open Num (hid bcells)
open Go.Lib

def zerosS : ByteArray := ⟨(List.replicate 256 0).toArray⟩
theorem zerosS_size : zerosS.size = 256 := by show (List.replicate 256 (0 : UInt8)).toArray.size = 256; rw [List.size_toArray, List.length_replicate]
theorem zeroCells_map (N : Nat) : Builtin.zeroCells #[Value.int .u8 0] N = ((List.replicate N (0 : UInt8)).toArray.map fun b => Value.int .u8 b.toNat) := by
  apply Array.ext
  · simp [Builtin.zeroCells]
  · intro j h1 h2
    simp [Builtin.zeroCells, Nat.mod_one]
theorem zerosS_cells : Builtin.zeroCells (Value.int .u8 0).cells 256 = (zerosS.data.map fun b => Value.int .u8 b.toNat) := by
  exact zeroCells_map 256
set_option maxRecDepth 100000 in
theorem zeros_eq {P : Program} {w : World} (t ti u ty e : TypeId) (i : TypeInfo) (ht : P.underlying t = some (.slice e)) (hti : P.underlying ti = some (.int .i64)) (hu : P.underlying u = some .string) (hi : P.info? e = some i) (hz : i.zero = some (.int .u8 0)) (hsize : i.size = 1) (hby : i.bytes = 1)
    (ao : Option Addr) (n cap : Nat) (h63 : n + 256 ≤ 9223372036854775807) (hlim : ¬ n + 256 ≤ cap → Builtin.nextslicecap (n + 256) cap ≤ 281474976710656) :
    (Builtin.append_ #[t, ti] ty #[.slice ao n cap, .int .i64 256]).run P w = (Builtin.append_ #[t, u] ty #[.slice ao n cap, .string zerosS]).run P w := by
  have hf : ∀ w, (Builtin.firstCells 1 256 (.string zerosS)).run P w = .ok (Builtin.zeroCells (Value.int .u8 0).cells 256) w := by
    intro w
    have := run_firstCells_string (P := P) w 1 zerosS
    rw [zerosS_size] at this
    rw [this, zerosS_cells]
    congr 1
    apply Array.ext'
    simp [strCells]
  have hw : IntKind.i64.wrap 256 = 256 := by decide
  have h63' : ¬ (9223372036854775807 < ((n : Int) + 256)) := by omega
  by_cases hroom : n + 256 ≤ cap
  · cases ao <;> simp [Builtin.append_, run_underlying ht, run_underlying hti, run_underlying hu, sizeOf, typeInfo, zeroValue, hi, hz, hsize, hby, asInt, asIntOf, hw, Builtin.lenOf, zerosS_size, hroom, hf]
  · have hlim' : ¬ (281474976710656 < Builtin.nextslicecap (n + 256) cap) := by have := hlim hroom; omega
    cases ao <;> simp [Builtin.append_, run_underlying ht, run_underlying hti, run_underlying hu, sizeOf, typeInfo, zeroValue, hi, hz, hsize, hby, asInt, asIntOf, hw, Builtin.lenOf, zerosS_size, hroom, hf, h63', hlim']
    all_goals (intro hbig; exfalso; omega)

theorem strCells_b (s : ByteArray) : strCells s = bcells s.data.toList := rfl
/-- A sector's bytes, appended. -/
theorem bytes_str {w wr : World} {F : Fil} {j : Nat} {o : Value} (hB : BytesAt w F j o wr) (hj : j < F.ps.length) (hps : ∀ p ∈ F.ps, (p.now.getD zeros).length = 256) (hl : F.ps.length ≤ 20000) (bx : Array Value) (s : ByteArray) (hs : s.data.toList = F.ps[j].now.getD zeros) :
    ∃ v' w', (Builtin.append_ #[99, tStr] 99 #[o, .string s]).run Tryz.prog (wr.alloc (.cells bx tC)) = .ok v' w' ∧ BytesAt w F (j + 1) v' w' := by
  obtain ⟨hrow, hbel, hne⟩ := hB
  obtain ⟨i, hi, h0, h1, h2⟩ := byteInfo
  have hlen := bytesTo_len F hps j (by omega)
  have hsl : s.size = 256 := by
    have : s.data.toList.length = 256 := by rw [hs]; exact hps _ (List.getElem_mem hj)
    simpa using this
  obtain ⟨v', w', hr, ho, hg, hnil⟩ := run_append_own_string (P := Tryz.prog) (w := wr.alloc (.cells bx tC)) w.heap.size 99 tStr 99 5 i Tryz.underlying99 Tryz.underlying9 hi h0 h1 h2 o (bytesTo F j).length (bcells (bytesTo F j)) (hrow.alloc _) s (by unfold maxLen; omega) (by omega) (by have := hbel.size; simp; omega)
  refine ⟨v', w', hr, ?_, (hbel.alloc hbel.size _).grown hg (by have := hbel.size; simp; omega) (fun k hk => (hrow.lt k hk).1), fun e => by have := (hnil.1 e).2; omega⟩
  rw [bytesTo_next F j hj, strCells_b, hs] at *
  have e : bcells (bytesTo F j ++ F.ps[j].now.getD zeros) = bcells (bytesTo F j) ++ bcells (F.ps[j].now.getD zeros) := by unfold bcells; rw [List.map_append]
  rw [e, List.length_append, hps _ (List.getElem_mem hj), ← hsl]
  exact ho
theorem bytes_zero {w wr : World} {F : Fil} {j : Nat} {o : Value} (hB : BytesAt w F j o wr) (hj : j < F.ps.length) (hps : ∀ p ∈ F.ps, (p.now.getD zeros).length = 256) (hl : F.ps.length ≤ 20000) (bx : Array Value) (hs : F.ps[j].now = none) :
    ∃ v' w', (Builtin.append_ #[99, 3] 99 #[o, .int .i64 256]).run Tryz.prog (wr.alloc (.cells bx tC)) = .ok v' w' ∧ BytesAt w F (j + 1) v' w' := by
  obtain ⟨v', w', hr, h⟩ := bytes_str hB hj hps hl bx zerosS (by rw [hs]; rfl)
  refine ⟨v', w', ?_, h⟩
  rw [← hr]
  obtain ⟨hrow, hbel, hne⟩ := hB
  obtain ⟨i, hi, h0, h1, h2⟩ := byteInfo
  have hlen := bytesTo_len F hps j (by omega)
  have hsh : ∃ ao cap, o = .slice ao (bytesTo F j).length cap := by
    rcases hrow.2 with ⟨rfl, hn⟩ | ⟨g, cap, cur, rfl, _⟩
    · rw [hn]; exact ⟨none, 0, rfl⟩
    · exact ⟨_, cap, rfl⟩
  obtain ⟨ao, cap, rfl⟩ := hsh
  exact zeros_eq 99 3 tStr 99 5 i Tryz.underlying99 Tryz.underlying3 Tryz.underlying9 hi h0 h1 h2 ao _ cap (by omega) (fun hn => by
    have := growslice_fits (need := (bytesTo F j).length + 256) (old := cap) (bytes := 1) (by omega) (by omega)
    omega)

section
variable {R : Nat → Prop} {w : World} {r : Nat} {v : Value} {E : Ens} {c : Ctl} {a k m : Int}
set_option maxRecDepth 100000 in
set_option maxHeartbeats 2000000 in
theorem rbytes_any (h : DiskR R w r v E c a k m) (hE : E.length ≤ 100) (hl : ∀ x ∈ E, x.2.2.ps.length ≤ 20000) (hps : ∀ x ∈ E, ∀ p ∈ x.2.2.ps, (p.now.getD zeros).length = 256) (s : ByteArray) :
    Calls Tryz.prog 37 #[ptr r, .string s] w fun e w' => e = .returned (.string ⟨((⟨c, Ens.dir E⟩ : Mod).bytes s.data.toList).toArray⟩) ∧ Below w.heap.size w w' := by
  have H := hid h
  have hrow := h.row.1
  obtain ⟨ao, cap, rfl, hao⟩ := row_shape hrow
  obtain ⟨q0, -⟩ := h.roots
  clear h hrow
  go_enter Tryz.func37, Tryz.ntmps37
  go_wp2_with fail
  refine (place_any H.out hE s).mono ?_
  rintro e w1 ⟨⟨i, rfl, hp⟩, rfl⟩
  rcases place_get hp with ⟨n, hn, rfl, hget, hnm⟩ | ⟨rfl, hget⟩
  · have hby : Hid ((⟨c, Ens.dir E⟩ : Mod).bytes s.data.toList = E[n].2.2.bytes) := hid (by unfold Mod.bytes; rw [hget])
    obtain ⟨g, rfl, hg⟩ := hao (by omega)
    have hln := hl E[n] (List.getElem_mem hn)
    have hpn := hps E[n] (List.getElem_mem hn)
    have hst : Hid (BytesAt w E[n].2.2 0 (.slice (some ⟨w.heap.size, 0, none⟩) 0 0) (w.alloc (.cells #[] 5))) := hid ⟨World.ownsRow_made w #[] 0 (Nat.le_refl _) (by decide) rfl, (Below.refl _ _).alloc (Nat.le_refl _) _, by simp⟩
    clear hget hp hnm q0 hao hl hps
    go_wp2
    go_loopw [6, 7] (fun o i wr => ∃ j : Nat, j ≤ E[n].2.2.ps.length ∧ i = .int .i64 j ∧ BytesAt w E[n].2.2 j o wr) (fun _ i _ => E[n].2.2.ps.length - (intOf i).toNat)
    case atStart => exact ⟨0, Nat.zero_le _, rfl, hst.out⟩
    case round =>
      obtain ⟨j, hj, rfl, hB⟩ := hrel
      have HB := hid hB
      have D := H.out.kept (F := fun _ => False) (Chg.of_below hB.2.1) (fun h => h) (fun _ _ h => h) (Apart.none w)
      obtain ⟨q0, -⟩ := D.roots
      obtain ⟨aN, cN, aS, cS, aW, cW, eN, -, -, x0, x1, x2, x3, x4⟩ := D.file hn
      have hf := (D.files E[n] (List.getElem_mem hn)).now.1
      rw [eN] at hf
      have hgr : g < wr.heap.size := Nat.lt_of_lt_of_le hg hB.2.1.size
      have hrr := lt_of_block D.blk
      clear hB D hst eN
      by_cases hlt : j < E[n].2.2.ps.length
      · obtain ⟨gN, rfl, hgN⟩ : ∃ gN, aN = some ⟨gN, 0, none⟩ ∧ gN < wr.heap.size := by
          obtain ⟨ao', cap', e, h⟩ := row_shape hf
          cases e
          exact h (by omega)
        obtain ⟨y0, y1, y2⟩ := nows_at E[n].2.2.ps j hlt
        have t0 := (hf.cellAt (j * 3) (by omega)).trans y0
        have t1 := (hf.cellAt (j * 3 + 1) (by omega)).trans y1
        have t2 := (hf.cellAt (j * 3 + 2) (by omega)).trans y2
        clear hf y0 y1 y2
        cases hnow : E[n].2.2.ps[j].now with
        | none =>
          rw [hnow] at t1 t2
          have t2' : wr.cell? ⟨gN, j * 3 + 2, none⟩ = some (.bool true) := t2
          have t1' : wr.cell? ⟨gN, j * 3 + 1, none⟩ = some (.string ⟨#[]⟩) := t1
          obtain ⟨v', w', hr, hB'⟩ := bytes_zero HB.out hlt hpn hln #[.bool true, .string ⟨#[]⟩, .bool true] hnow
          have HR := hid hr
          have HB' := hid hB'
          clear t2 t1 hr hB' hnow
          go_wp2_with (at_builtin; refine wpList_append_run rfl (.tmp 45) (.const (.int .i64 256)) 99 3 rfl _ _ (by simp [Act.eval]) (by simp [Act.eval]) HR.out ?_)
          go_roundw
          case rel => exact ⟨j + 1, by omega, by go_num, HB'.out⟩
          case measure => simp [intOf]; omega
        | some l =>
          rw [hnow] at t1 t2
          have t2' : wr.cell? ⟨gN, j * 3 + 2, none⟩ = some (.bool false) := t2
          have t1' : wr.cell? ⟨gN, j * 3 + 1, none⟩ = some (.string ⟨l.toArray⟩) := t1
          obtain ⟨v', w', hr, hB'⟩ := bytes_str HB.out hlt hpn hln #[.bool true, .string ⟨l.toArray⟩, .bool false] ⟨l.toArray⟩ (by rw [hnow]; rfl)
          have HR := hid hr
          have HB' := hid hB'
          clear t2 t1 hr hB' hnow
          go_wp2_with (at_builtin; refine wpList_append_run rfl (.tmp 47) (.tmp 49) 99 tStr rfl _ _ (by simp [Act.eval]) (by simp [Act.eval]) HR.out ?_)
          go_roundw
          case rel => exact ⟨j + 1, by omega, by go_num, HB'.out⟩
          case measure => simp [intOf]; omega
      · obtain rfl : j = E[n].2.2.ps.length := by omega
        have hcv := conv_any HB.out.1 HB.out.2.2
        have hall : bytesTo E[n].2.2 E[n].2.2.ps.length = E[n].2.2.bytes := by unfold bytesTo Fil.bytes; rw [List.take_of_length_le (Nat.le_refl _)]
        have HALL := hid hall
        clear hf hall
        go_wp2
        go_ret
        exact ⟨ret_str (by rw [hby.out, HALL.out]), HB.out.2.1⟩
  · have hby : Hid ((⟨c, Ens.dir E⟩ : Mod).bytes s.data.toList = []) := hid (by unfold Mod.bytes; rw [hget])
    clear hget hp q0 hao hl hps
    have hcv := conv_any (w := w.alloc (.cells #[] 5)) (base := w.heap.size) (v := .slice (some ⟨w.heap.size, 0, none⟩) 0 0) (l := []) (World.ownsRow_made w #[] 0 (Nat.le_refl _) (by decide) rfl) (by simp)
    go_wp2
    go_loopw [6, 7] (fun o i wr => o = .slice (some ⟨w.heap.size, 0, none⟩) 0 0 ∧ i = .int .i64 0 ∧ wr = w.alloc (.cells #[] 5)) (fun _ _ _ => 0)
    case atStart => exact ⟨rfl, rfl, rfl⟩
    case round =>
      obtain ⟨rfl, rfl, rfl⟩ := hrel
      go_wp2
      go_ret
      exact ⟨ret_str hby.out.symm, (Below.refl _ _).alloc (Nat.le_refl _) _⟩
end
end Ref
end Go.Proofs.YtgmbiiocjhkpdaaGreat
