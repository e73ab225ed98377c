/-
  Contracts of the project's disk that look: sizes, room for a file, sectors together.
-/
import Derived.Test.YtiomojidfkpagaaDiskCtl
import Derived.BigQuiet
import Derived.Sort.MapsRangeIn
namespace Go.Proofs.Ytiomojidfkpagaa
open Go.RowKit
namespace Disk
open Num (hid bcells)

theorem get?_mem {α : Type} {L : List (Nam × α)} {n : Nam} {x : α} (h : get? L n = some x) : (n, x) ∈ L := by
  unfold get? at h
  cases hf : L.find? (fun e => e.1 == n) with
  | none => rw [hf] at h; cases h
  | some e =>
    rw [hf] at h
    have h1 := List.mem_of_find?_eq_some hf
    have h2 := List.find?_some hf
    simp only [Option.map_some, Option.some.injEq] at h
    have h3 : e.1 = n := by simpa using h2
    have : e = (n, x) := by rw [← h, ← h3]
    rw [← this]; exact h1
theorem DiskAt.file {tag : Nat → Tag} {w : World} {d m : Nat} {c : Ctl} {L : Ents} (h : DiskAt tag w d m c L) {n : Nam} {b : Nat} {F : Fil} (hg : get? L n = some (b, F)) : ∃ v Q, FileAt tag w n b F v Q := h.files _ (get?_mem hg)

abbrev tInt0 : TypeId := 3
def sizeN (L : Ents) (n : Nam) : Int := match get? L n with | none => -1 | some x => (x.2.ps.length : Nat)
def canB (L : Ents) (n : Nam) : Bool := (get? L n).isSome || decide (L.length < 8)

set_option maxRecDepth 100000 in
theorem size_any (tag : Nat → Tag) (w : World) (d m : Nat) (c : Ctl) (L : Ents) (D : DiskAt tag w d m c L) (s : ByteArray) (hs : s.size ≤ maxLen) :
    Calls Try.prog 20 #[ptr d, .string s] w fun e w' => e = .returned (.int .i64 (sizeN L s.data.toList)) ∧ w = w' := by
  obtain ⟨c0, -, -, -, -, -, -, -⟩ := root_cells D.root.blk
  have hl := D.owns.look s hs
  cases hg : get? L s.data.toList with
  | none =>
    have e : sizeN L s.data.toList = -1 := by unfold sizeN; rw [hg]
    rw [hg] at hl
    have hl2 : _ = Result.ok (Value.pointer none) w := hl
    have HE := hid e
    clear hl hg D e
    go_enter Try.func20, Try.ntmps20
    go_wp2
    go_ret
    exact ⟨ret_i HE.out.symm, rfl⟩
  | some x =>
    obtain ⟨b, F⟩ := x
    obtain ⟨v, Q, hf⟩ := D.file hg
    have hps : F.ps.length = Q.length := by rw [hf.ps, List.length_map]
    have e : sizeN L s.data.toList = (Q.length : Nat) := by unfold sizeN; rw [hg]; show ((F.ps.length : Nat) : Int) = _; rw [hps]
    rw [hg] at hl
    have hl2 : _ = Result.ok (Value.pointer (some ⟨b, 0, none⟩)) w := hl
    have d0 : w.cell? ⟨b, 0, none⟩ = some v := blk_cell hf.blk 0
    have HE := hid e
    rcases hf.row.2 with ⟨hv, hn⟩ | ⟨g, cap, cur, hv, _, _, hn0, hm0, -, -⟩
    · subst hv
      have HN := hid hn
      clear hl hg D e hf hps hn
      go_enter Try.func20, Try.ntmps20
      go_wp2
      go_ret
      exact ⟨ret_i (by rw [HE.out, HN.out]; rfl), rfl⟩
    · subst hv
      clear hl hg D e hf hps
      go_enter Try.func20, Try.ntmps20
      go_wp2
      go_ret
      exact ⟨ret_i HE.out.symm, rfl⟩

set_option maxRecDepth 100000 in
theorem canHold_any (tag : Nat → Tag) (w : World) (d m : Nat) (c : Ctl) (L : Ents) (D : DiskAt tag w d m c L) (s : ByteArray) (hs : s.size ≤ maxLen) :
    Calls Try.prog 87 #[ptr d, .string s] w fun e w' => e = .returned (.bool (canB L s.data.toList)) ∧ w = w' := by
  obtain ⟨c0, -, -, -, -, -, -, -⟩ := root_cells D.root.blk
  have hl := D.owns.look s hs
  have hlen : (Builtin.len_ #[tMap] tInt0 #[.map (some m)]).run Try.prog w = .ok (.int .i64 L.length) w := by
    have := World.ownsMap.len D.owns Try.underlying83 tInt0
    rw [datum_size] at this
    exact this
  cases hg : get? L s.data.toList with
  | none =>
    have e : canB L s.data.toList = decide (L.length < 8) := by unfold canB; rw [hg]; rfl
    rw [hg] at hl
    have hl2 : _ = Result.ok (Value.pointer none) w := hl
    have HE := hid e
    clear hl hg D e
    go_enter Try.func87, Try.ntmps87
    go_wp2
    go_ret
    exact ⟨ret_b (by rw [HE.out]; simp; omega), rfl⟩
  | some x =>
    obtain ⟨b, F⟩ := x
    have e : canB L s.data.toList = true := by unfold canB; rw [hg]; rfl
    rw [hg] at hl
    have hl2 : _ = Result.ok (Value.pointer (some ⟨b, 0, none⟩)) w := hl
    have HE := hid e
    clear hl hg D e
    go_enter Try.func87, Try.ntmps87
    go_wp2
    go_ret
    exact ⟨ret_b HE.out.symm, rfl⟩

/-! ### all sectors -/
def lens (L : Ents) : Nat := (L.map fun e => e.2.2.ps.length).sum
/-- The sectors of the files that have come. -/
def came (L : Ents) (left : Lit → Bool) : Nat := lens (L.filter fun e => !left (.string e.1))

theorem came_start (L : Ents) (left : Lit → Bool) (h : ∀ e ∈ L, left (.string e.1) = true) : came L left = 0 := by
  unfold came
  have : L.filter (fun e => !left (.string e.1)) = [] := by
    rw [List.filter_eq_nil_iff]
    intro e he; rw [h e he]; simp
  rw [this]; rfl
theorem came_end (L : Ents) (left : Lit → Bool) (h : ∀ kl, left kl = false) : came L left = lens L := by
  unfold came
  rw [List.filter_eq_self.2 (fun e _ => by rw [h]; rfl)]
theorem lens_cons (e : Nam × (Nat × Fil)) (L : Ents) : lens (e :: L) = e.2.2.ps.length + lens L := by simp [lens]
theorem came_step : ∀ (L : Ents) (left : Lit → Bool) (x : Nam × (Nat × Fil)), (L.map (·.1)).Nodup → x ∈ L → left (.string x.1) = true →
    came L (fun z => left z && !z.sameKey (.string x.1)) = came L left + x.2.2.ps.length
  | [], _, _, _, h, _ => by cases h
  | e :: r, left, x, hn, hx, hl => by
    have hn2 : (r.map (·.1)).Nodup := (List.nodup_cons.1 hn).2
    have hne := (List.nodup_cons.1 hn).1
    rcases List.mem_cons.1 hx with rfl | hx
    · have hr : r.filter (fun e => !(left (.string e.1) && !(Lit.string e.1).sameKey (.string x.1))) = r.filter (fun e => !left (.string e.1)) := by
        refine List.filter_congr fun e he => ?_
        have : e.1 ≠ x.1 := fun h => hne (by have := List.mem_map_of_mem (f := fun e : Nam × (Nat × Fil) => e.1) he; rw [h] at this; exact this)
        have h2 : (Lit.string e.1).sameKey (.string x.1) = false := by
          show (e.1 == x.1) = false
          simp [this]
        rw [h2]; simp
      unfold came
      have h3 : (Lit.string x.1).sameKey (.string x.1) = true := by show (x.1 == x.1) = true; simp
      rw [List.filter_cons_of_pos (by simp [h3]), List.filter_cons_of_neg (by simp [hl]), hr, lens_cons]
      omega
    · have ih := came_step r left x hn2 hx hl
      have hxe : e.1 ≠ x.1 := fun h => hne (by have := List.mem_map_of_mem (f := fun e : Nam × (Nat × Fil) => e.1) hx; rw [← h] at this; exact this)
      have h2 : (Lit.string e.1).sameKey (.string x.1) = false := by
        show (e.1 == x.1) = false
        simp [hxe]
      unfold came at ih ⊢
      by_cases he : left (.string e.1) = true
      · rw [List.filter_cons_of_neg (by simp [he, h2]), List.filter_cons_of_neg (by simp [he])]
        exact ih
      · simp only [Bool.not_eq_true] at he
        rw [List.filter_cons_of_pos (by simp [he]), List.filter_cons_of_pos (by simp [he]), lens_cons, lens_cons, ih]
        omega
theorem came_le (L : Ents) (left : Lit → Bool) : came L left ≤ lens L := by
  unfold came lens
  induction L with
  | nil => exact Nat.le_refl _
  | cons e r ih =>
    by_cases h : left (.string e.1) = true
    · rw [List.filter_cons_of_neg (by rw [h]; simp), List.map_cons, List.sum_cons]; omega
    · simp only [Bool.not_eq_true] at h
      rw [List.filter_cons_of_pos (by rw [h]; simp), List.map_cons, List.sum_cons, List.map_cons, List.sum_cons]; omega

theorem bytesBefore_irrefl : ∀ a : List UInt8, bytesBefore a a = false
  | [] => rfl
  | x :: r => by
    show (decide (x < x) || (x == x && bytesBefore r r)) = false
    rw [bytesBefore_irrefl r]
    simp
theorem Rises.nodup {L : Ents} (h : Rises L) : (L.map (·.1)).Nodup := by
  unfold List.Nodup
  rw [List.pairwise_map]
  exact h.imp fun {a b} hab e => by rw [e, bytesBefore_irrefl] at hab; cases hab
theorem lens_le (tag : Nat → Tag) (w : World) (d m : Nat) (c : Ctl) (L : Ents) (D : DiskAt tag w d m c L) : lens L ≤ 131072 := by
  have : ∀ L : Ents, (∀ e ∈ L, e.2.2.ps.length ≤ 16384) → lens L ≤ L.length * 16384 := by
    intro L h
    induction L with
    | nil => exact Nat.le_refl _
    | cons e r ih =>
      have h1 := h e (List.mem_cons_self ..)
      have h2 := ih (fun e he => h e (List.mem_cons_of_mem _ he))
      rw [lens_cons, List.length_cons]; omega
  have h1 := this L (fun e he => by
    obtain ⟨v, Q, hf⟩ := D.files e he
    rw [hf.ps, List.length_map]; exact hf.len)
  have := D.few
  omega

theorem datum_at2 (L : Ents) (n : Nam) (z : DataW Unit) : (datum L).atKey (.string n) z = match get? L n with | some x => .lit (.int .u64 (x.1 : Int)) | none => z := by
  unfold datum get? DataW.atKey
  simp only [List.find?_map]
  have e : ((fun p : Lit × DataW Unit => p.1.sameKey (.string n)) ∘ fun e : Nam × (Nat × Fil) => (Lit.string e.1, DataW.lit (.int .u64 (e.2.1 : Int)))) = fun e => e.1 == n := by funext e; rfl
  rw [e]
  cases List.find? (fun e : Nam × (Nat × Fil) => e.1 == n) L <;> rfl
theorem datum_has (L : Ents) (e : Nam × (Nat × Fil)) (he : e ∈ L) : Maps.has (datum L) (.string e.1) = true := by
  unfold datum
  rw [Maps.has_eq, List.any_eq_true]
  refine ⟨_, List.mem_map_of_mem he, ?_⟩
  show (e.1 == e.1) = true
  simp
theorem key_inv {x : ByteArray} {kl : Lit} (h : keyOf Try.prog tStr (.string x) = some kl) : kl = .string x.data.toList := by
  simp [keyOf, Try.underlying9, mapKey] at h
  exact h.2.symm
/-- Who has come. -/
theorem came_who {L : Ents} {x : ByteArray} {kl : Lit} {o : Option Nat} {y : DataW Unit} {ps : List MemPlace} (hk : keyOf Try.prog tStr (.string x) = some kl) (hy : RP (ptrO o) = some (y, ps)) (hat : ∀ z, (datum L).atKey kl z = y) :
    ∃ b F, kl = .string x.data.toList ∧ get? L x.data.toList = some (b, F) ∧ o = some b := by
  obtain rfl := key_inv hk
  have h1 := hat .nil
  have h2 := hat (.lit (.bool true))
  rw [datum_at2] at h1 h2
  cases hg : get? L x.data.toList with
  | none => rw [hg] at h1 h2; rw [← h1] at h2; cases h2
  | some z =>
    rw [hg] at h1
    refine ⟨z.1, z.2, rfl, rfl, ?_⟩
    have h1' : DataW.lit (.int .u64 (z.1 : Int)) = y := h1
    have h3 : RP (ptrO o) = some (.lit (.int .u64 (z.1 : Int)), ps) := by rw [hy, h1']
    have h4 := RP_lit h3
    cases o with
    | none => cases h4
    | some b => cases h4; rfl

set_option maxRecDepth 100000 in
theorem sectors_any (tag : Nat → Tag) (w : World) (d m : Nat) (c : Ctl) (L : Ents) (D : DiskAt tag w d m c L) :
    Calls Try.prog 88 #[ptr d] w fun e w' => e = .returned (.int .i64 (lens L : Nat)) ∧ Below w.heap.size w w' := by
  obtain ⟨c0, -, -, -, -, -, -, -⟩ := root_cells D.root.blk
  have hown : w.ownsMap Try.prog tStr RP m L.length (datum L) := D.owns
  have hle := lens_le tag w d m c L D
  go_enter Try.func88, Try.ntmps88
  go_wp2_with (first | (at_range; refine wpList_range_own _ rfl _ _ rfl tStr _ strKeyed Try.underlying83 _ m _ _ rfl hown ?_; intro w0 hrg0 hg0 hs0) | go_in)
  go_frame
  go_loopw [3] (fun s wr => ∃ left cnt, s = .int .i64 (came L left : Nat) ∧ wr.ranges Try.prog tStr RP m w.heap.size L.length (datum L) left cnt ∧ Below w.heap.size w wr) (fun _ wr => wr.rangeLeft m w.heap.size)
  case atStart => exact ⟨_, _, by rw [came_start L _ (fun e he => datum_has L e he)]; rfl, hrg0, (Below.refl _ w).grown hg0 (Nat.le_refl _) (fun k hk => by cases hk)⟩
  case round =>
    obtain ⟨left, cnt, rfl, hrg, hbw⟩ := hrel
    go_wp2_with (first | (at_next; refine wpList_next_ranges _ rfl _ rfl tStr strKeyed RP Value.string ptrO (fun key kl h => Maps.keyOf_string_inv Try.underlying9 h) (fun v y h => RP_inv h) m w.heap.size _ _ _ _ rfl hrg ?_ ?_) | go_in)
    · intro hc0 hl0
      have HL := hid hl0
      clear hl0
      go_wp2
      go_ret
      exact ⟨ret_i (by rw [came_end L left HL.out]), hbw⟩
    · intro x o kl y yp w1 cnt1 hkx hlx hy hat hrg1 hlt hg1 hs1 hen
      obtain ⟨b, F, rfl, hget, rfl⟩ := came_who hkx hy hat
      obtain ⟨v, Q, hf⟩ := D.file hget
      have hb1 : Below w.heap.size w w1 := hbw.grown hg1 hbw.size (fun k hk => by cases hk; exact Nat.le_refl _)
      have hps : F.ps.length = Q.length := by rw [hf.ps, List.length_map]
      have hqle := hf.len
      have d0 : w1.cell? ⟨b, 0, none⟩ = some v := (hb1.cell (p := ⟨b, 0, none⟩) (lt_of_block hf.blk)).trans (blk_cell hf.blk 0)
      have hstep := came_step L left _ D.owns.rises.nodup (get?_mem hget) hlx
      have hcl := came_le L left
      have HST := hid hstep
      have HB := hid hb1
      have HRG := hid hrg
      have HRG1 := hid hrg1
      have HPS := hid hps
      have hen2 : _ = Result.ok (Value.tuple #[.string x, .pointer (some ⟨b, 0, none⟩)]) w1 := hen
      have HLT := hid hlt
      rcases hf.row.2 with ⟨hv, hn⟩ | ⟨g, cap, cur, hv, _, _, hn0, hm0, -, -⟩
      · subst hv
        have HN := hid hn
        clear hrg hrg1 hkx hlx hy hat hlt hg1 hs1 hen hb1 hps hstep hget hf hbw hn
        go_wp2
        go_roundw
        case rel => exact ⟨_, _, by rw [HST.out]; show _ = Value.int .i64 ((came L left + F.ps.length : Nat) : Int); rw [HPS.out, HN.out]; rfl, HRG1.out, HB.out⟩
        case measure => rw [HRG1.out.left_eq, HRG.out.left_eq]; exact HLT.out
      · subst hv
        clear hrg hrg1 hkx hlx hy hat hlt hg1 hs1 hen hb1 hps hstep hget hf hbw
        go_wp2
        go_roundw
        case rel => exact ⟨_, _, by rw [HST.out]; show _ = Value.int .i64 ((came L left + F.ps.length : Nat) : Int); rw [HPS.out]; go_num, HRG1.out, HB.out⟩
        case measure => rw [HRG1.out.left_eq, HRG.out.left_eq]; exact HLT.out

end Disk
end Go.Proofs.Ytiomojidfkpagaa
