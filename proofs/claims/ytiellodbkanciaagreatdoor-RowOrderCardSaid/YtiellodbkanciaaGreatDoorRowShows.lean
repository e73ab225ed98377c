/-
  Contracts of Show, the project's and the reference's.
-/
import Derived.Test.YtiellodbkanciaaGreatDoorRowCompare
import Derived.Test.YtiellodbkanciaaGreatDoorRowBld
import Derived.Test.YtiellodbkanciaaGreatDoorValRefShows
import Derived.Laws.MakeOwn
namespace Go.Proofs.YtiellodbkanciaaGreatDoor
open Go.RowKit Go.Shelf
namespace Ro
open Va
open Num (hid)
theorem showV_most {v : V} (hN : InI v.N) : (showV v).length ≤ 6003 := by
  unfold showV showL
  split
  · rename_i h
    split
    · decide
    · split
      · have := itoa_le hN
        omega
      · have := showS_length (bl v.S)
        have ho : (openL v.K).length ≤ 2 := by unfold openL; split <;> simp
        rcases h with ⟨_, _, h⟩ | ⟨_, h⟩ | ⟨_, _, h⟩
        · simp_all
        · simp_all
        · simp only [List.length_append, List.length_cons, List.length_nil]
          omega
  · simp
theorem join_next (xs : List Bs) (y : Bs) : Lib.join (xs ++ [y]) sepL = if xs = [] then y else Lib.join xs sepL ++ (sepL ++ y) := by
  match xs with
  | [] => rw [if_pos rfl]; exact Lib.join_one y sepL
  | x :: r =>
    rw [if_neg (by simp), List.cons_append, Lib.join_cons, Lib.join_cons]
    simp [Lib.joinTail]
def joinV (l : Vs) : Bs := Lib.join (l.map showV) sepL
theorem joinV_most (l : Vs) (hw : Wide l) : (joinV l).length ≤ l.length * 6005 := by
  unfold joinV
  match l, hw with
  | [], _ => exact Nat.zero_le _
  | v :: r, hw =>
    rw [List.map_cons, Lib.join_cons, List.length_append, Lib.joinTail_length, List.length_cons, List.length_map]
    have h1 := showV_most (hw v (by simp))
    have h2 : Lib.lens (r.map showV) ≤ r.length * 6003 := by
      have hr : ∀ x ∈ r, InI x.N := fun x hx => hw x (by simp [hx])
      clear hw h1
      induction r with
      | nil => exact Nat.zero_le _
      | cons x r ih =>
        have h1 := showV_most (hr x (by simp))
        have := ih (fun y hy => hr y (by simp [hy]))
        simp only [Lib.lens, List.map_cons, List.sum_cons, List.length_cons] at this ⊢
        omega
    have h3 : sepL.length = 2 := rfl
    rw [h3]
    omega
theorem wide_take {l : Vs} (h : Wide l) (k : Nat) : Wide (l.take k) := fun v hv => h v (List.mem_of_mem_take hv)
theorem joinV_next {l : Vs} {k : Nat} (h : k < l.length) : joinV (l.take (k + 1)) = (if k = 0 then [] else joinV (l.take k) ++ sepL) ++ showV l[k] := by
  unfold joinV
  rw [List.take_succ_eq_append_getElem h, List.map_append, List.map_cons, List.map_nil, join_next]
  by_cases hk : k = 0
  · subst hk
    rw [if_pos (by simp), if_pos rfl, List.nil_append]
  · have hne : (l.take k).map showV ≠ [] := fun e => by
      have := congrArg List.length e
      rw [List.length_map, List.length_take, List.length_nil] at this
      omega
    rw [if_neg hne, if_neg hk, List.append_assoc]
theorem showR_no {l : Vs} (h : goodR l = false) : showR l = [] := by unfold showR; rw [h]; rfl
theorem showR_yes {l : Vs} (h : goodR l = true) : showR l = 40 :: (joinV l ++ [41]) := if_pos h
abbrev tS : TypeId := 9
theorem infoS : (Tryz.prog.info? tS).map (fun i => (i.zero, i.size, i.bytes)) = some (some (.string ⟨#[]⟩), 1, 16) := by kernel_rfl
/-- make([]string, n). -/
theorem make_strs (w : World) (n : Nat) (hn : n ≤ 1000000) : ∃ w', (Instr.makeSlice 22 (.int .i64 (n : Int)) (.int .i64 (n : Int))).run Tryz.prog w = .ok (.slice (some ⟨w.heap.size, 0, none⟩) n n) w' ∧
    w'.ownsRow w.heap.size tS 1 (.slice (some ⟨w.heap.size, 0, none⟩) n n) n (List.replicate n (.string ⟨#[]⟩)) ∧ Below w.heap.size w w' := by
  obtain ⟨i, hi, h0, h1, h2⟩ := info_parts infoS
  obtain ⟨w', hr, ho, hg⟩ := run_make_full (P := Tryz.prog) w w.heap.size 22 tS i _ 1 Tryz.underlying22 hi h0 h1 .i64 .i64 n (by rw [h2]; omega) (by unfold maxLen; omega) (Nat.le_refl _)
  rw [Nat.mul_one] at ho
  refine ⟨w', hr, ?_, (Below.refl _ w).grown hg (Nat.le_refl _) (fun k hk => by cases hk)⟩
  have e : (madeCells #[Value.string ⟨#[]⟩] n).toList = List.replicate n (.string ⟨#[]⟩) := toList_madeCells_one ..
  have ho' : w'.ownsRow w.heap.size tS 1 (.slice (some ⟨w.heap.size, 0, none⟩) n n) n (madeCells #[Value.string ⟨#[]⟩] n).toList := ho
  rw [e] at ho'
  exact ho'
def shownC (l : Vs) (k : Nat) : List Value := (l.take k).map (fun v => Value.string (bs (showV v))) ++ List.replicate (l.length - k) (.string ⟨#[]⟩)
theorem shownC_zero (l : Vs) : shownC l 0 = List.replicate l.length (.string ⟨#[]⟩) := rfl
theorem shownC_next {l : Vs} {k : Nat} (h : k < l.length) : (shownC l k).set k (.string (bs (showV l[k]))) = shownC l (k + 1) := by
  unfold shownC
  have hl : ((l.take k).map (fun v => Value.string (bs (showV v)))).length = k := by rw [List.length_map, List.length_take]; omega
  rw [List.set_append_right _ _ (by omega), hl, Nat.sub_self, List.take_succ_eq_append_getElem h, List.map_append, List.append_assoc]
  obtain ⟨m, hm⟩ : ∃ m, l.length - k = m + 1 := ⟨l.length - k - 1, by omega⟩
  have hm2 : l.length - (k + 1) = m := by omega
  rw [hm, hm2, List.replicate_succ]
  rfl
theorem shownC_len (l : Vs) (k : Nat) (h : k ≤ l.length) : (shownC l k).length = l.length := by
  unfold shownC
  rw [List.length_append, List.length_map, List.length_take, List.length_replicate]
  omega
theorem shownC_all (l : Vs) (j : Nat) (x : ByteArray) (h : (l.map fun v => bs (showV v))[j]? = some x) : (shownC l l.length)[j]? = some (.string x) := by
  unfold shownC
  rw [Nat.sub_self, List.take_length, List.replicate_zero, List.append_nil]
  rw [List.getElem?_map] at h ⊢
  cases hl : l[j]? with
  | none => rw [hl] at h; cases h
  | some v => rw [hl] at h; simp at h ⊢; exact h
theorem row_mono0 {w : World} {base : Nat} {e : TypeId} {k : Nat} {v : Value} {n : Nat} {xs : List Value} (h : w.ownsRow base e k v n xs) : w.ownsRow 0 e k v n xs := by
  obtain ⟨h1, h2⟩ := h
  refine ⟨h1, ?_⟩
  rcases h2 with h2 | ⟨g, cap, cur, e1, _, e3, e4⟩
  · exact Or.inl h2
  · exact Or.inr ⟨g, cap, cur, e1, Nat.zero_le _, e3, e4⟩
theorem extraJ : Builder.Extra Tryz.prog Tryz.joinL_ren := {
  sizeBuilder := by kernel_rfl
  liesBuilder := by kernel_rfl
  t5 := Tryz.replL.t5
  a5 := Tryz.replL.a5
  z5 := Tryz.replL.z5
  v5 := Tryz.replL.v5
  infoByte := by kernel_rfl
  cellsByte := by kernel_rfl
  sizeByte := by kernel_rfl
  neB5 := by decide }
theorem join_any (l : Vs) (g : Nat) (hl : l.length ≤ 16) (hw : Wide l) (w : World) (ho : w.ownsRow 0 tS 1 (.slice (some ⟨g, 0, none⟩) l.length l.length) l.length (shownC l l.length)) :
    Calls Tryz.prog 75 #[.slice (some ⟨g, 0, none⟩) l.length l.length, .string ⟨#[44, 32]⟩] w fun e w' => e = .returned (.string (bs (joinV l))) ∧ Below w.heap.size w w' := by
  have e1 : (l.map fun v => bs (showV v)).length = l.length := List.length_map ..
  have e2 : (l.map fun v => bs (showV v)).map (·.data.toList) = l.map showV := by rw [List.map_map]; rfl
  have hm := joinV_most l hw
  have h := Any.strings_Join Tryz.joinL extraJ g 0 l.length (l.map fun v => bs (showV v)) ⟨#[44, 32]⟩ w (fun j x hx => by
    have hj : j < l.length := by
      have := (List.getElem?_eq_some_iff.1 hx).1
      omega
    rw [Nat.zero_add]
    exact (ho.cellAt j (by omega)).trans (shownC_all l j x hx)) (ho.lt g rfl).2 (by omega) (by omega) (by
      rw [e2]
      show (joinV l).length ≤ _
      omega)
  rw [e1, e2] at h
  exact h
set_option maxRecDepth 100000 in
set_option maxHeartbeats 4000000 in
theorem show_any (x : Value) (l : Vs) (w : World) (h : RowAt w x l) (hw : Wide l) (g : Glob w) :
    Calls Tryz.prog 33 #[x] w fun e w' => e = .returned (.string (bs (showR l))) ∧ Below w.heap.size w w' := by
  have G := hid (good_any x l)
  have H := hid h
  have Hg := hid g
  have HW := hid hw
  obtain ⟨ao, cap, rfl, -, hat⟩ := h.ways
  have HAT := hid hat
  clear h hat g hw
  cases hg : goodR l with
  | false =>
    rw [showR_no hg]
    rw [hg] at G
    go_enter Tryz.func33, Tryz.ntmps33
    go_wp2_with fail
    refine (G.out _ H.out).mono ?_
    rintro e w3 ⟨rfl, hb3⟩
    have B3 := hid hb3
    clear hb3
    go_wp2
    go_ret
    exact ⟨rfl, B3.out⟩
  | true =>
    rw [showR_yes hg]
    rw [hg] at G
    have hl := few hg
    clear hg
    go_enter Tryz.func33, Tryz.ntmps33
    go_wp2_with fail
    refine (G.out _ H.out).mono ?_
    rintro e w3 ⟨rfl, hb3⟩
    obtain ⟨w4, hmk, ho4, hb4⟩ := make_strs w3 l.length (by omega)
    have B4 := hid (hb3.trans (hb4.mono hb3.size))
    have hsz3 := hb3.size
    rw [← shownC_zero] at ho4
    have HO := hid (row_mono0 ho4)
    have hlt4 := (ho4.lt w3.heap.size rfl).2
    clear hb3 hb4 ho4
    go_wp2
    go_loopw [14] (fun i wr => ∃ k : Nat, k ≤ l.length ∧ i = .int .i64 k ∧ Hid (wr.ownsRow 0 tS 1 (.slice (some ⟨w3.heap.size, 0, none⟩) l.length l.length) l.length (shownC l k)) ∧ Below w.heap.size w wr ∧ w3.heap.size < wr.heap.size) (fun i _ => l.length - (intOf i).toNat)
    case atStart => exact ⟨0, Nat.zero_le _, rfl, HO, B4.out, hlt4⟩
    case round =>
      obtain ⟨k, hk, rfl, HK, hb, hlr⟩ := hrel
      have HB := hid hb
      have hszr := hb.size
      clear hb
      by_cases hlt : k < l.length
      · obtain ⟨b, o, rfl, hbl, x0, x1, x2⟩ := HAT.out k hlt
        have y0 := (HB.out.cell (p := ⟨b, o + k * 3, none⟩) hbl).trans x0
        have y1 := (HB.out.cell (p := ⟨b, o + k * 3 + 1, none⟩) hbl).trans x1
        have y2 := (HB.out.cell (p := ⟨b, o + k * 3 + 2, none⟩) hbl).trans x2
        clear x0 x1 x2
        have hw1 := HW.out l[k] (List.getElem_mem hlt)
        have HS := hid (fun w g => Va.show_any l[k].K l[k].N l[k].S hw1 w g)
        have HSe : Hid (showT l[k].K l[k].N l[k].S = bs (showV l[k])) := hid rfl
        rw [HSe.out] at HS
        have HN := hid (shownC_next hlt)
        generalize l[k] = p at *
        clear hw1
        have HB2 := hid (HB.out.alloc hszr (.cells #[.int .i64 p.K, .int .i64 p.N, .string p.S] tV))
        have HK2 := hid (own_keeps HK.out ((Below.refl _ _).alloc (Nat.le_refl _) (.cells #[.int .i64 p.K, .int .i64 p.N, .string p.S] tV)))
        go_wp2_with fail
        refine (HS.out _ (Hg.out.on HB2.out)).mono ?_
        rintro e w5 ⟨rfl, hb5⟩
        have B5 := hid (HB2.out.trans (hb5.mono HB2.out.size))
        have ho5 := own_keeps HK2.out hb5
        have hl5 : w3.heap.size < w5.heap.size := by have := hb5.size; simp at this; omega
        have hf5 := ho5.frozenAt k
        have hc5 : ∃ u, w5.cell? ⟨w3.heap.size, k, none⟩ = some u := ⟨_, (ho5.cellAt k (by omega)).trans (List.getElem?_eq_getElem (by rw [shownC_len l k hk]; exact hlt))⟩
        obtain ⟨u5, hc5⟩ := hc5
        have hst := (ho5.stored k (.string (bs (showV p)))).1
        rw [HN.out] at hst
        have HST := hid hst
        have B6 := hid (B5.out.setCell (p := ⟨w3.heap.size, k, none⟩) hsz3 (.string (bs (showV p))))
        clear hb5 ho5 hst
        go_wp2
        go_roundw
        case rel => exact ⟨k + 1, by omega, by go_num, HST, B6.out, by simpa [World.setCell] using hl5⟩
        case measure => simp [intOf]; omega
      · have hkl : k = l.length := by omega
        subst hkl
        have hm := joinV_most l HW.out
        have hj1 : ¬ 9223372036854775807 < (⟨#[40]⟩ : ByteArray).size + (bs (joinV l)).size := by rw [bs_size]; show ¬ _ < 1 + _; omega
        have hj2 : ¬ 9223372036854775807 < 1 + (bs (joinV l)).size + 1 := by rw [bs_size]; omega
        have HE : Hid (⟨#[40]⟩ ++ bs (joinV l) ++ ⟨#[41]⟩ = bs (40 :: (joinV l ++ [41]))) := hid (by
          rw [show (⟨#[40]⟩ : ByteArray) = bs [40] from rfl, show (⟨#[41]⟩ : ByteArray) = bs [41] from rfl, bs_append, bs_append]
          simp)
        clear hm
        go_wp2_with fail
        refine (join_any l w3.heap.size hl HW.out _ HK.out).mono ?_
        rintro e w5 ⟨rfl, hb5⟩
        have B5 := hid (HB.out.trans (hb5.mono hszr))
        clear hb5
        go_wp2
        go_ret
        exact ⟨by rw [← HE.out]; rfl, B5.out⟩
end Ro
end Go.Proofs.YtiellodbkanciaaGreatDoor
