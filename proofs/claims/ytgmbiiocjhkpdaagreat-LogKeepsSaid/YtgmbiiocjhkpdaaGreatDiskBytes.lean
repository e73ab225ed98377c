/-
  Contract of the project's disk: Bytes.
-/
import Derived.Test.YtgmbiiocjhkpdaaGreatDiskHas
namespace Go.Proofs.YtgmbiiocjhkpdaaGreat
open Go.RowKit
namespace Disk
open Num (hid bcells)

/-- The bytes of the first k places. -/
def bytesTo (F : Fil) (k : Nat) : List UInt8 := (F.ps.take k).flatMap fun p => p.now.getD zeros
def BytesAt (w : World) (F : Fil) (k : Nat) (v : Value) (wr : World) : Prop := wr.ownsRow w.heap.size 5 1 v (bytesTo F k).length (bcells (bytesTo F k)) ∧ Below w.heap.size w wr ∧ v ≠ .slice none 0 0

theorem make_room (w : World) (n : Nat) (hn : n ≤ 100000000) : ∃ w', (Instr.makeSlice 99 (.int .i64 0) (.int .i64 (n : Int))).run Tryz.prog w = .ok (.slice (some ⟨w.heap.size, 0, none⟩) 0 n) w' ∧
    w'.ownsRow w.heap.size 5 1 (.slice (some ⟨w.heap.size, 0, none⟩) 0 n) 0 [] ∧ Below w.heap.size w w' := by
  obtain ⟨i, hi, h0, h1, h2⟩ := byteInfo
  have hr := run_make (P := Tryz.prog) w 99 5 i _ Tryz.underlying99 hi h0 .i64 .i64 0 n (by omega) (by omega) (by rw [h2]; omega) (by omega)
  simp only [Int.toNat_natCast, Int.toNat_zero] at hr
  refine ⟨_, hr, ?_, (Below.refl _ w).alloc (Nat.le_refl _) _⟩
  rw [h1]
  exact World.ownsRow_made w _ n (Nat.le_refl _) (by unfold maxLen; omega) (by rw [size_madeCells])
/-- 'append(out, sector...)'. -/
theorem append_sector {w : World} {base : Nat} {v : Value} {l s : List UInt8} (hown : w.ownsRow base 5 1 v l.length (bcells l)) (hb : base ≤ w.heap.size) {nb : Nat} (hs : s.length = 256) (hc : ∀ j (h : j < s.length), w.cell? ⟨nb, j, none⟩ = some (.int .u8 (s[j].toNat : Int)))
    (hl : l.length ≤ 100000000) :
    ∃ v' w', (Builtin.append_ #[99, 99] 99 #[v, .slice (some ⟨nb, 0, none⟩) 256 256]).run Tryz.prog w = .ok v' w' ∧ w'.ownsRow base 5 1 v' (l ++ s).length (bcells (l ++ s)) ∧ w.grownBy w' v.ownBlock ∧ v' ≠ .slice none 0 0 := by
  obtain ⟨i, hi, h0, h1, h2⟩ := byteInfo
  obtain ⟨v', w', hr, ho, hg, hnil⟩ := run_append_own (P := Tryz.prog) w base 99 99 5 i _ 1 1 Tryz.underlying99 hi h0 h1 h2 rfl (by decide) v l.length (bcells l) hown ⟨nb, 0, none⟩ 256 256 (bcells s) (by rw [Num.bcells_len, hs]) (by
    intro j u hj
    have hjl : j < s.length := by have := (List.getElem?_eq_some_iff.1 hj).1; rw [Num.bcells_len] at this; exact this
    rw [show (⟨nb, 0, none⟩ : Addr).add j = ⟨nb, j, none⟩ from by simp [Addr.add]; omega, hc j hjl]
    unfold bcells at hj
    rw [List.getElem?_map, List.getElem?_eq_getElem hjl] at hj
    exact hj) (by intro u hu; unfold bcells at hu; obtain ⟨b, _, rfl⟩ := List.mem_map.1 hu; rfl) (by unfold maxLen; omega) (by omega) hb
  refine ⟨v', w', hr, ?_, hg, fun e => by have := (hnil.1 e).2; omega⟩
  have e : bcells (l ++ s) = bcells l ++ bcells s := by unfold bcells; rw [List.map_append]
  rw [e, List.length_append, hs]
  exact ho

theorem bytesTo_len (F : Fil) (h : ∀ p ∈ F.ps, (p.now.getD zeros).length = 256) : ∀ k, k ≤ F.ps.length → (bytesTo F k).length = 256 * k
  | 0, _ => rfl
  | k + 1, hk => by
    have ih := bytesTo_len F h k (by omega)
    unfold bytesTo at ih ⊢
    rw [List.take_succ_eq_append_getElem (by omega), List.flatMap_append, List.length_append, ih]
    simp only [List.flatMap_cons, List.flatMap_nil, List.append_nil, h _ (List.getElem_mem _)]
    omega
theorem bytesTo_next (F : Fil) (k : Nat) (hk : k < F.ps.length) : bytesTo F (k + 1) = bytesTo F k ++ F.ps[k].now.getD zeros := by
  unfold bytesTo
  rw [List.take_succ_eq_append_getElem hk, List.flatMap_append]
  simp

/-- A round: the place is boxed, its sector's bytes are appended. -/
theorem bytes_round {tag : Nat → Tag} {w wr : World} {n : Nam} {f : Nat} {F : Fil} {v : Value} {Q : Pls} (h : FileAt tag w n f F v Q) {k : Nat} (hk : k < Q.length) {o : Value} (hB : BytesAt w F k o wr) (bx : Array Value) :
    ∃ v' w', (Builtin.append_ #[99, 99] 99 #[o, .slice (some ⟨Q[k].1.now, 0, none⟩) 256 256]).run Tryz.prog (wr.alloc (.cells bx tPlace)) = .ok v' w' ∧ BytesAt w F (k + 1) v' w' := by
  obtain ⟨hrow, hbel, -⟩ := hB
  have hps : F.ps.length = Q.length := by rw [h.ps, List.length_map]
  have hpk : F.ps[k]'(by omega) = Q[k].2 := by simp [h.ps]
  have hp := h.pls Q[k] (List.getElem_mem hk)
  have hall : ∀ p ∈ F.ps, (p.now.getD zeros).length = 256 := by
    intro p hp
    rw [h.ps] at hp
    obtain ⟨x, hx, rfl⟩ := List.mem_map.1 hp
    exact (h.pls x hx).now.len
  have hlen := bytesTo_len F hall k (by omega)
  have hq := h.len
  have hs2 := lt_of_block hp.now.blk
  obtain ⟨-, hcells⟩ := sec_cells hp.now
  obtain ⟨v', w', hr, ho, hg, hne⟩ := append_sector (w := wr.alloc (.cells bx tPlace)) (hrow.alloc _) (by have := hbel.size; simp; omega) (nb := Q[k].1.now) (s := Q[k].2.now.getD zeros) hp.now.len (fun j hj => by
    refine (alloc_cell (Nat.lt_of_lt_of_le hs2 hbel.size) _).trans ?_
    exact (hbel.cell (p := ⟨Q[k].1.now, j, none⟩) hs2).trans (hcells j hj)) (by omega)
  refine ⟨v', w', hr, ?_, ?_, hne⟩
  · rw [bytesTo_next F k (by omega), hpk]; exact ho
  · exact (hbel.alloc hbel.size _).grown hg (by have := hbel.size; simp; omega) (fun j hj => (hrow.lt j hj).1)

theorem conv_any {w : World} {base : Nat} {v : Value} {l : List UInt8} (h : w.ownsRow base 5 1 v l.length (bcells l)) (hne : v ≠ .slice none 0 0) : (convert 99 tStr v).run Tryz.prog w = .ok (.string ⟨l.toArray⟩) w := by
  by_cases hl : 1 ≤ l.length
  · exact Num.conv_own 99 tStr 5 Tryz.underlying99 Tryz.underlying5 Tryz.underlying9 rfl hl h
  · obtain rfl : l = [] := List.eq_nil_of_length_eq_zero (by omega)
    rcases h.2 with ⟨e, _⟩ | ⟨g, cap, cur, rfl, _⟩
    · exact absurd e hne
    · exact run_convert_bytes_back w 99 tStr 5 ⟨g, 0, none⟩ cap [] Tryz.underlying99 Tryz.underlying5 Tryz.underlying9 fun j hj => absurd hj (Nat.not_lt_zero _)

theorem ret_str {a b : List UInt8} (h : a = b) : Ending.returned (.string ⟨a.toArray⟩) = .returned (.string ⟨b.toArray⟩) := by rw [h]
set_option maxRecDepth 100000 in
set_option maxHeartbeats 2000000 in
theorem fbytes_any (tag : Nat → Tag) (w : World) (n : Nam) (f : Nat) (F : Fil) (v : Value) (Q : Pls) (h : FileAt tag w n f F v Q) :
    Calls Tryz.prog 79 #[ptr f] w fun e w' => e = .returned (.string ⟨F.bytes.toArray⟩) ∧ Below w.heap.size w w' := by
  have c0 : w.cell? ⟨f, 0, none⟩ = some v := blk_cell h.blk 0
  have hlen := h.len
  have hfl := lt_of_block h.blk
  have hps : F.ps.length = Q.length := by rw [h.ps, List.length_map]
  have hall : bytesTo F Q.length = F.bytes := by unfold bytesTo Fil.bytes; rw [List.take_of_length_le (by omega)]
  obtain ⟨w1, hmk, hrow1, hb1⟩ := make_room w (Q.length * 256) (by omega)
  have hB0 : BytesAt w F 0 (.slice (some ⟨w.heap.size, 0, none⟩) 0 (Q.length * 256)) w1 := ⟨hrow1, hb1, by simp⟩
  have HB0 := hid hB0
  have HH := hid h
  have HALL := hid hall
  have d0 := (hb1.cell (p := ⟨f, 0, none⟩) hfl).trans c0
  have hrow := row_len h.row
  clear h hps hall hrow1 hb1 hB0
  rcases hrow with ⟨rfl, rfl⟩ | ⟨g, cap, rfl, hn0, hm0⟩
  · have hmk2 : (Instr.makeSlice 99 (.int .i64 0) (.int .i64 0)).run Tryz.prog w = .ok (.slice (some ⟨w.heap.size, 0, none⟩) 0 0) w1 := hmk
    clear hmk
    go_enter Tryz.func79, Tryz.ntmps79
    go_wp2
    go_loopw [3, 18] (fun o i wr => i = .int .i64 0 ∧ BytesAt w F 0 o wr) (fun _ _ _ => 0)
    case atStart => exact ⟨rfl, HB0.out⟩
    case round =>
      obtain ⟨rfl, hB⟩ := hrel
      have hcv := conv_any hB.1 hB.2.2
      have HB := hid hB
      clear hB
      go_wp2
      go_ret
      exact ⟨ret_str HALL.out, HB.out.2.1⟩
  · have hmk2 : (Instr.makeSlice 99 (.int .i64 0) (.int .i64 ((Q.length : Int) * 256))).run Tryz.prog w = .ok (.slice (some ⟨w.heap.size, 0, none⟩) 0 (Q.length * 256)) w1 := by rw [← hmk]; rfl
    clear hmk
    go_enter Tryz.func79, Tryz.ntmps79
    go_wp2
    go_loopw [3, 18] (fun o i wr => ∃ k : Nat, k ≤ Q.length ∧ i = .int .i64 k ∧ BytesAt w F k o wr) (fun _ i _ => Q.length - (intOf i).toNat)
    case atStart => exact ⟨0, Nat.zero_le _, rfl, HB0.out⟩
    case round =>
      obtain ⟨k, hk, rfl, hB⟩ := hrel
      by_cases hlt : k < Q.length
      · have hpc := place_cells (i := k) HH.out.row hlt rfl
        obtain ⟨q0, q1, q2, -, -, -⟩ := hpc
        have hgl := (HH.out.row.lt g rfl).2
        have k0 := (hB.2.1.cell (p := ⟨g, k * 3, none⟩) hgl).trans q0
        have k1 := (hB.2.1.cell (p := ⟨g, k * 3 + 1, none⟩) hgl).trans q1
        have k2 := (hB.2.1.cell (p := ⟨g, k * 3 + 2, none⟩) hgl).trans q2
        obtain ⟨v', w', hr, hB'⟩ := bytes_round HH.out hlt hB #[ptr Q[k].1.now, ptrO Q[k].1.safe, .bool Q[k].1.waits]
        have HB' := hid hB'
        clear q0 q1 q2 hB hB'
        cases hs : Q[k].1.safe with
        | none =>
          rw [hs] at k1 hr
          have k1' : _ = some (Value.pointer none) := k1
          have hr' : (Builtin.append_ #[99, 99] 99 #[u3, .slice (some ⟨Q[k].1.now, 0, none⟩) 256 256]).run Tryz.prog (wr.alloc (.cells #[ptr Q[k].1.now, Value.pointer none, .bool Q[k].1.waits] tPlace)) = .ok v' w' := hr
          clear hs k1 hr
          go_wp2_with (first | (at_builtin; refine wpList_append_run rfl _ _ _ _ rfl _ _ rfl rfl hr' ?_) | go_in)
          go_roundw
          case rel => exact ⟨k + 1, by omega, by go_num, HB'.out⟩
          case measure => simp [intOf]; omega
        | some b =>
          rw [hs] at k1 hr
          have k1' : _ = some (Value.pointer (some ⟨b, 0, none⟩)) := k1
          have hr' : (Builtin.append_ #[99, 99] 99 #[u3, .slice (some ⟨Q[k].1.now, 0, none⟩) 256 256]).run Tryz.prog (wr.alloc (.cells #[ptr Q[k].1.now, Value.pointer (some ⟨b, 0, none⟩), .bool Q[k].1.waits] tPlace)) = .ok v' w' := hr
          clear hs k1 hr
          go_wp2_with (first | (at_builtin; refine wpList_append_run rfl _ _ _ _ rfl _ _ rfl rfl hr' ?_) | go_in)
          go_roundw
          case rel => exact ⟨k + 1, by omega, by go_num, HB'.out⟩
          case measure => simp [intOf]; omega
      · obtain rfl : k = Q.length := by omega
        have hcv := conv_any hB.1 hB.2.2
        have HB := hid hB
        clear hB
        go_wp2
        go_ret
        exact ⟨ret_str HALL.out, HB.out.2.1⟩

set_option maxRecDepth 100000 in
theorem bytes_any (tag : Nat → Tag) (w : World) (d m : Nat) (c : Ctl) (L : Ents) (D : DiskAt tag w d m c L) (s : ByteArray) (hs : s.size ≤ maxLen) :
    Calls Tryz.prog 36 #[ptr d, .string s] w fun e w' => e = .returned (.string ⟨(Mod.bytes ⟨c, dirOf L⟩ s.data.toList).toArray⟩) ∧ Below w.heap.size w w' := by
  obtain ⟨c0, -, -, -, -, -, -, -⟩ := root_cells D.root.blk
  have hl := D.owns.look s hs
  cases hg : get? L s.data.toList with
  | none =>
    have e : Mod.bytes ⟨c, dirOf L⟩ s.data.toList = [] := by unfold Mod.bytes; rw [dirOf_get, hg]; rfl
    rw [hg] at hl
    have hl2 : _ = Result.ok (Value.pointer none) w := hl
    have HE := hid e
    clear hl hg D e
    go_enter Tryz.func36, Tryz.ntmps36
    go_wp2
    go_ret
    exact ⟨ret_str (a := []) HE.out.symm, Below.refl _ _⟩
  | some x =>
    obtain ⟨b, F⟩ := x
    obtain ⟨v, Q, hf⟩ := D.file hg
    have e : Mod.bytes ⟨c, dirOf L⟩ s.data.toList = F.bytes := by unfold Mod.bytes; rw [dirOf_get, hg]; rfl
    rw [hg] at hl
    have hl2 : _ = Result.ok (Value.pointer (some ⟨b, 0, none⟩)) w := hl
    have HE := hid e
    have HF := hid hf
    clear hl hg D e hf
    go_enter Tryz.func36, Tryz.ntmps36
    go_wp2_with fail
    refine (fbytes_any tag _ s.data.toList b F v Q HF.out).mono ?_
    rintro e w1 ⟨rfl, hb⟩
    have HB := hid hb
    clear hb
    go_wp2
    go_ret
    exact ⟨ret_str HE.out.symm, HB.out⟩
theorem bytes_has {N d m : Nat} {M : Mod} {w : World} (h : Has N d m M w) (s : ByteArray) (hs : s.size ≤ maxLen) :
    Calls Tryz.prog 36 #[ptr d, .string s] w fun e w' => e = .returned (.string ⟨(M.bytes s.data.toList).toArray⟩) ∧ Below w.heap.size w w' := by
  obtain ⟨tag, L, D, hL, hN, hz⟩ := h
  refine (bytes_any tag w d m M.c L D s hs).mono ?_
  rintro e w' ⟨rfl, hb⟩
  rw [hL]
  exact ⟨rfl, hb⟩

end Disk
end Go.Proofs.YtgmbiiocjhkpdaaGreat
