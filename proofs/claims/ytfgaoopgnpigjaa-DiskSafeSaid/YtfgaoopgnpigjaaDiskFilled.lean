/-
  Contract of the statements' own 'filled'.
-/
import Derived.Test.YtfgaoopgnpigjaaDiskDoesW
namespace Go.Proofs.Ytfgaoopgnpigjaa
open Go.RowKit
namespace Disk
open Num (hid bcells)

/-- A slice of acts, as it is read. -/
def ActsAt (N : Nat) (w : World) (v : Value) (l : List ActM) : Prop :=
  ((∃ ao cap, v = .slice ao 0 cap ∧ l = []) ∨ ∃ b o cap, v = .slice (some ⟨b, o, none⟩) l.length cap ∧ b < N ∧ ∀ j (h : j < l.length) i, i < 6 → w.cell? ⟨b, o + j * 6 + i, none⟩ = l[j].cells[i]?) ∧ (∀ x ∈ l, ActOk N w x) ∧ l.length ≤ maxLen
theorem IntsAt.onOld {w w' : World} {N : Nat} {v : Value} {l : List Int} (h : IntsAt w v l) (hb : Below N w w') (ho : ∀ b o n cap, v = .slice (some ⟨b, o, none⟩) n cap → n ≠ 0 → b < N) : IntsAt w' v l := by
  rcases h with h | ⟨b, o, cap, hv, hb0, hl⟩
  · exact Or.inl h
  · exact Or.inr ⟨b, o, cap, hv, Nat.lt_of_lt_of_le hb0 hb.size, fun j hj => (hb.cell (p := ⟨b, o + j, none⟩) (ho b o _ cap hv (by omega))).trans (hl j hj)⟩
theorem ActOk.kept {N : Nat} {w w' : World} {x : ActM} (h : ActOk N w x) (hb : Below N w w') : ActOk N w' x := ⟨h.name, h.n, h.len, h.ints.onOld hb h.old, h.few, h.old⟩
theorem ActsAt.kept {N : Nat} {w w' : World} {v : Value} {l : List ActM} (h : ActsAt N w v l) (hb : Below N w w') : ActsAt N w' v l := by
  obtain ⟨h1, h2, h3⟩ := h
  refine ⟨?_, fun x hx => (h2 x hx).kept hb, h3⟩
  rcases h1 with h1 | ⟨b, o, cap, hv, hb0, hl⟩
  · exact Or.inl h1
  · exact Or.inr ⟨b, o, cap, hv, hb0, fun j hj i hi => (hb.cell (p := ⟨b, o + j * 6 + i, none⟩) hb0).trans (hl j hj i hi)⟩

def playM (l : List ActM) (M : Mod) : Mod := l.foldl (fun M x => (M.does x).2.2) M
theorem playM_next (l : List ActM) (M : Mod) (k : Nat) (h : k < l.length) : playM (l.take (k + 1)) M = ((playM (l.take k) M).does l[k]).2.2 := by
  unfold playM
  rw [List.take_succ_eq_append_getElem h, List.foldl_append]
  rfl
def filledM (l : List ActM) : Mod := (((playM (l.take 80) (Mod.new 16384)).on []).arm 0 0 0).room 16384

set_option maxRecDepth 100000 in
set_option maxHeartbeats 4000000 in
theorem filled_any (w : World) (v : Value) (l : List ActM) (hA : ActsAt w.heap.size w v l) :
    Calls Try.prog 38 #[v] w fun e w' => e = .returned (ptr (w.heap.size + 1)) ∧ Has w.heap.size (w.heap.size + 1) w.heap.size (filledM l) w' ∧ Below w.heap.size w w' := by
  have HA := hid hA
  have hm := hA.1
  have hlen := hA.2.2
  unfold maxLen at hlen
  clear hA
  rcases hm with ⟨ao, cap, rfl, rfl⟩ | ⟨b, o, cap, rfl, hbN, hcell⟩
  · go_enter Try.func38, Try.ntmps38
    go_wp2_with fail
    refine (new_has 16384 w).mono ?_
    rintro e w1 ⟨rfl, h, hb⟩
    have H1 : Hid (Has w.heap.size (w.heap.size + 1) w.heap.size (playM (([] : List ActM).take 0) (Mod.new 16384)) w1) := hid h
    have HB1 := hid hb
    clear h hb
    go_wp2
    go_loopw [4] (fun i wr => ∃ k : Nat, k ≤ ([] : List ActM).length ∧ k ≤ 80 ∧ i = .int .i64 k ∧ Has w.heap.size (w.heap.size + 1) w.heap.size (playM (([] : List ActM).take k) (Mod.new 16384)) wr ∧ Below w.heap.size w wr) (fun i _ => ([] : List ActM).length - (intOf i).toNat)
    case atStart => exact ⟨0, Nat.zero_le _, by omega, rfl, H1.out, HB1.out⟩
    case round =>
      obtain ⟨k, hk, hk2, rfl, hH, hbw⟩ := hrel
      have HH := hid hH
      have HBW := hid hbw
      obtain rfl : k = 0 := by simpa using hk
      clear hH hbw
      go_wp2_with fail
      refine (on_has HH.out (.slice none 0 0) [] (Or.inl ⟨none, 0, rfl, rfl⟩) (Nat.zero_le _) (fun b o n cap e hn => by cases e)).mono ?_
      rintro e w2 ⟨rfl, h2, hb2⟩
      have H2 := hid h2
      have HB2 := hid hb2
      clear h2 hb2
      go_wp2_with fail
      refine (arm_has H2.out 0 0 0 (by omega) (by omega)).mono ?_
      rintro e w3 ⟨rfl, h3, hb3⟩
      have H3 := hid h3
      have HB3 := hid hb3
      clear h3 hb3
      go_wp2_with fail
      refine (room_has H3.out 16384).mono ?_
      rintro e w4 ⟨rfl, h4, hb4⟩
      have H4 := hid h4
      have HB4 := hid hb4
      clear h4 hb4
      go_wp2
      go_ret
      have h := H4.out
      exact ⟨rfl, h, ((HBW.out.trans HB2.out).trans HB3.out).trans HB4.out⟩
  · have HC := hid hcell
    clear hcell
    go_enter Try.func38, Try.ntmps38
    go_wp2_with fail
    refine (new_has 16384 w).mono ?_
    rintro e w1 ⟨rfl, h, hb⟩
    have H1 : Hid (Has w.heap.size (w.heap.size + 1) w.heap.size (playM (l.take 0) (Mod.new 16384)) w1) := hid h
    have HB1 := hid hb
    clear h hb
    go_wp2
    go_loopw [4] (fun i wr => ∃ k : Nat, k ≤ l.length ∧ k ≤ 80 ∧ i = .int .i64 k ∧ Has w.heap.size (w.heap.size + 1) w.heap.size (playM (l.take k) (Mod.new 16384)) wr ∧ Below w.heap.size w wr) (fun i _ => l.length - (intOf i).toNat)
    case atStart => exact ⟨0, Nat.zero_le _, by omega, rfl, H1.out, HB1.out⟩
    case round =>
      obtain ⟨k, hk, hk2, rfl, hH, hbw⟩ := hrel
      have HH := hid hH
      have HBW := hid hbw
      by_cases hlt : k < l.length
      · by_cases h80 : k < 80
        · have hA2 := HA.out.kept hbw
          have q : ∀ i, i < 6 → wr.cell? ⟨b, o + k * 6 + i, none⟩ = l[k].cells[i]? := fun i hi => (hbw.cell (p := ⟨b, o + k * 6 + i, none⟩) hbN).trans (HC.out k hlt i hi)
          have q0 : wr.cell? ⟨b, o + k * 6, none⟩ = some (.int .i64 l[k].kind) := q 0 (by omega)
          have q1 : wr.cell? ⟨b, o + k * 6 + 1, none⟩ = some (.string l[k].name) := q 1 (by omega)
          have q2 : wr.cell? ⟨b, o + k * 6 + 2, none⟩ = some (.int .i64 l[k].n) := q 2 (by omega)
          have q3 : wr.cell? ⟨b, o + k * 6 + 3, none⟩ = some (.int .u8 (l[k].fill.toNat : Int)) := q 3 (by omega)
          have q4 : wr.cell? ⟨b, o + k * 6 + 4, none⟩ = some (.int .i64 l[k].len) := q 4 (by omega)
          have q5 : wr.cell? ⟨b, o + k * 6 + 5, none⟩ = some l[k].fv := q 5 (by omega)
          have hok := hA2.2.1 l[k] (List.getElem_mem hlt)
          have hdo := does_any hH l[k] hok
          have HDO := hid hdo
          clear q hA2 hok hdo hH hbw
          go_wp2_with fail
          refine HDO.out.mono ?_
          rintro e w2 ⟨rfl, h2, hb2⟩
          have H2 := hid h2
          have HB2 := hid hb2
          clear h2 hb2
          go_wp2
          go_roundw
          case rel => exact ⟨k + 1, by omega, by omega, by go_num, by rw [playM_next l _ k hlt]; exact H2.out, HBW.out.trans HB2.out⟩
          case measure => simp [intOf]; omega
        · obtain rfl : k = 80 := by omega
          clear hH hbw
          go_wp2_with fail
          refine (on_has HH.out (.slice none 0 0) [] (Or.inl ⟨none, 0, rfl, rfl⟩) (Nat.zero_le _) (fun b o n cap e hn => by cases e)).mono ?_
          rintro e w2 ⟨rfl, h2, hb2⟩
          have H2 := hid h2
          have HB2 := hid hb2
          clear h2 hb2
          go_wp2_with fail
          refine (arm_has H2.out 0 0 0 (by omega) (by omega)).mono ?_
          rintro e w3 ⟨rfl, h3, hb3⟩
          have H3 := hid h3
          have HB3 := hid hb3
          clear h3 hb3
          go_wp2_with fail
          refine (room_has H3.out 16384).mono ?_
          rintro e w4 ⟨rfl, h4, hb4⟩
          have H4 := hid h4
          have HB4 := hid hb4
          clear h4 hb4
          go_wp2
          go_ret
          have h := H4.out
          exact ⟨rfl, h, ((HBW.out.trans HB2.out).trans HB3.out).trans HB4.out⟩
      · obtain rfl : k = l.length := by omega
        have htake : playM (l.take l.length) (Mod.new 16384) = playM (l.take 80) (Mod.new 16384) := by rw [List.take_of_length_le (Nat.le_refl _), List.take_of_length_le hk2]
        have HT := hid htake
        clear htake hH hbw
        go_wp2_with fail
        refine (on_has HH.out (.slice none 0 0) [] (Or.inl ⟨none, 0, rfl, rfl⟩) (Nat.zero_le _) (fun b o n cap e hn => by cases e)).mono ?_
        rintro e w2 ⟨rfl, h2, hb2⟩
        have H2 := hid h2
        have HB2 := hid hb2
        clear h2 hb2
        go_wp2_with fail
        refine (arm_has H2.out 0 0 0 (by omega) (by omega)).mono ?_
        rintro e w3 ⟨rfl, h3, hb3⟩
        have H3 := hid h3
        have HB3 := hid hb3
        clear h3 hb3
        go_wp2_with fail
        refine (room_has H3.out 16384).mono ?_
        rintro e w4 ⟨rfl, h4, hb4⟩
        have H4 := hid h4
        have HB4 := hid hb4
        clear h4 hb4
        go_wp2
        go_ret
        have h := H4.out
        rw [HT.out] at h
        exact ⟨rfl, h, ((HBW.out.trans HB2.out).trans HB3.out).trans HB4.out⟩

end Disk
end Go.Proofs.Ytfgaoopgnpigjaa
