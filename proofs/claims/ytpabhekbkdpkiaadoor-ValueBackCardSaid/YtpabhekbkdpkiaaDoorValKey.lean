/-
  Contract of the project's Key; what the calls read of the library's variables.
-/
import Derived.Test.YtpabhekbkdpkiaaDoorValCompare
import Derived.Test.YtpabhekbkdpkiaaDoorNumFixed
import Derived.Lib.LaidTab
namespace Go.Proofs.YtpabhekbkdpkiaaDoor
open Go.RowKit
namespace Va
open Num (hid fixF)
def bs (l : Bs) : ByteArray := ⟨l.toArray⟩
theorem bl_bs (l : Bs) : bl (bs l) = l := rfl
theorem bs_bl (S : ByteArray) : bs (bl S) = S := rfl
theorem bs_append (a b : Bs) : bs a ++ bs b = bs (a ++ b) := by
  apply ByteArray.ext
  rw [ByteArray.data_append]
  apply Array.ext'
  simp [bs]
theorem bs_size (l : Bs) : (bs l).size = l.length := by show l.toArray.size = _; simp
/-- What the calls read of the library's variables. -/
structure Glob (w : World) : Prop where
  ml : ∃ m, w.cell? ⟨0, 0, none⟩ = some (.int .i64 m)
  pow : Lib.TabIs Tryd.prog w "internal/strconv.uint64pow10" .u64 Lib.pow10Tab
  syn : ∃ te pe, w.cell? ⟨4, 0, none⟩ = some (.iface te pe)
  rng : ∃ te pe, w.cell? ⟨5, 0, none⟩ = some (.iface te pe)
theorem powNamed : Tryd.prog.globalNamed "internal/strconv.uint64pow10" = some 3 := by kernel_rfl
theorem Glob.on {w w' : World} (g : Glob w) (hb : Below w.heap.size w w') : Glob w' := by
  obtain ⟨⟨m, hm⟩, hp, ⟨t1, p1, h1⟩, ⟨t2, p2, h2⟩⟩ := g
  refine ⟨⟨m, (hb.cell (p := ⟨0, 0, none⟩) (World.block_lt_of_cell? _ _ hm)).trans hm⟩, ?_, ⟨t1, p1, (hb.cell (p := ⟨4, 0, none⟩) (World.block_lt_of_cell? _ _ h1)).trans h1⟩, ⟨t2, p2, (hb.cell (p := ⟨5, 0, none⟩) (World.block_lt_of_cell? _ _ h2)).trans h2⟩⟩
  unfold Lib.TabIs World.var? at hp ⊢
  rw [powNamed] at hp ⊢
  simp only [Option.bind_some] at hp ⊢
  have hlt : 3 < w.heap.size := by
    apply Classical.byContradiction
    intro hn
    rw [Array.getElem?_eq_none (by omega)] at hp
    cases hp
  rw [hb.block 3 hlt]
  exact hp
theorem Glob.drew {w : World} (g : Glob w) : Glob w.drew := g.on (Below.refl _ _).drew
theorem repl_any (S : ByteArray) (hS : S.size ≤ 2000) (w : World) (g : Glob w) :
    Calls Tryd.prog 27 #[.string S, .string ⟨#[0]⟩, .string ⟨#[0, 255]⟩] w fun e w' => e = .returned (.string (bs (stuff (bl S)))) ∧ Below w.heap.size w w' := by
  obtain ⟨m, hm⟩ := g.ml
  have X : Builder.Extra Tryd.prog Tryd.replL_ren := {
    sizeBuilder := by kernel_rfl
    liesBuilder := by kernel_rfl
    t5 := Tryd.replL.t5
    a5 := Tryd.replL.a5
    z5 := Tryd.replL.z5
    v5 := Tryd.replL.v5
    infoByte := by kernel_rfl
    cellsByte := by kernel_rfl
    sizeByte := by kernel_rfl
    neB5 := by decide }
  have hc : Lib.countB S ⟨#[0]⟩ ≤ 2000 := by
    show Lib.count S.data.toList [0] ≤ 2000
    rw [Lib.count_one]
    have := List.count_le_length (a := (0 : UInt8)) (l := S.data.toList)
    have e : S.data.toList.length = S.size := bl_len S
    omega
  have e2 : (⟨#[0, 255]⟩ : ByteArray).size = 2 := rfl
  refine (Any.strings_ReplaceAll Tryd.replL X S ⟨#[0]⟩ ⟨#[0, 255]⟩ m w (by omega) hm (by decide) (by rw [e2]; omega)).mono ?_
  rintro e w' ⟨rfl, hb⟩
  refine ⟨?_, hb⟩
  rw [← replaceAll_stuff]
  rfl
theorem cell_at {w : World} {b : Nat} {cs : Array Value} {t : TypeId} {f : Nat × Nat} (h : w.heap[b]? = some (.cells cs t f)) (j : Nat) : w.cell? ⟨b, j, none⟩ = cs[j]? := by simp [World.cell?, h]
/-- A row of one byte, made anew, as a text. -/
theorem conv_one (x : UInt8) (w : World) : (convert 40 9 (.slice (some ⟨w.heap.size, 0, none⟩) 1 1)).run Tryd.prog (w.alloc (.cells #[.int .u8 (x.toNat : Int)] 5)) = .ok (.string ⟨#[x]⟩) (w.alloc (.cells #[.int .u8 (x.toNat : Int)] 5)) :=
  run_convert_bytes_back (P := Tryd.prog) _ 40 9 5 ⟨w.heap.size, 0, none⟩ 1 [x] Tryd.underlying40 Tryd.underlying5 Tryd.underlying9 (fun j hj => by
    have h := heap_alloc_new w (.cells #[.int .u8 (x.toNat : Int)] 5)
    match j, hj with
    | 0, _ => rw [Addr.add_lit, cell_at h]; rfl)
/-- A value's key. -/
def keyS (K N : Int) (S : ByteArray) : ByteArray := bs (keyL K N (bl S))
theorem off_wrap {N : Int} (h : InI N) : IntKind.u64.wrap (IntKind.u64.wrap N + 9223372036854775808) = ((off N : Nat) : Int) := by
  unfold InI at h
  unfold off
  rw [Num.wrap_u, Num.wrap_u]
  omega
theorem fix8_off (N : Int) (hN : InI N) (w : World) :
    Calls Tryd.prog 26 #[.int .u64 (off N), .int .i64 8] w fun e w' => e = .returned (.string (bs (fixF 8 (off N)))) ∧ Below w.heap.size w w' :=
  (Num.fixed_any (off N) (off_lt hN) 8 w).mono fun _ _ h => h
theorem key_bad {K N : Int} {S : ByteArray} (h : goodB K N S = false) : keyS K N S = ⟨#[]⟩ := by
  unfold keyS keyL
  unfold goodB at h
  rw [if_neg (by simpa using h)]
  rfl
theorem good_of {K N : Int} {S : ByteArray} (h : goodB K N S = true) : Good K N (bl S) := by unfold goodB at h; simpa using h
set_option maxRecDepth 100000 in
set_option maxHeartbeats 1000000 in
theorem key_any (K N : Int) (S : ByteArray) (hN : InI N) (w : World) (g : Glob w) :
    Calls Tryd.prog 14 #[.agg #[.int .i64 K, .int .i64 N, .string S]] w fun e w' => e = .returned (.string (keyS K N S)) ∧ Below w.heap.size w w' := by
  have B1 : Hid (Below w.heap.size w (w.alloc (.cells #[.int .i64 K, .int .i64 N, .string S] 23))) := hid ((Below.refl _ _).alloc (Nat.le_refl _) _)
  have X1 : Hid (Bx w.heap.size K N S (w.alloc (.cells #[.int .i64 K, .int .i64 N, .string S] 23))) := hid (Bx.new K N S w)
  have G := good_any K N S
  cases hg : goodB K N S with
  | false =>
    rw [key_bad hg]
    rw [hg] at G
    have HG := hid G
    clear G hg
    go_enter Tryd.func14, Tryd.ntmps14
    go_wp2_with fail
    refine (HG.out _).mono ?_
    rintro e w3 ⟨rfl, hb3⟩
    have B3 := hid (B1.out.trans (hb3.mono B1.out.size))
    clear hb3
    go_wp2
    go_ret
    exact ⟨rfl, B3.out⟩
  | true =>
    rw [hg] at G
    have HG := hid G
    clear G
    have gg := good_of hg
    have hz := hid (good_size hg)
    have HN := hid hN
    have Hg := hid g
    rcases gg with ⟨rfl, rfl, hS⟩ | ⟨rfl, hS⟩ | ⟨hK, rfl, hS⟩
    · have e : keyS 0 0 S = ⟨#[0]⟩ := by
        unfold keyS keyL
        rw [hS, if_pos good_null, if_pos rfl]
        rfl
      rw [e]
      clear e hS hg hN g
      go_enter Tryd.func14, Tryd.ntmps14
      go_wp2_with fail
      refine (HG.out _).mono ?_
      rintro e w3 ⟨rfl, hb3⟩
      have B3 := hid (B1.out.trans (hb3.mono B1.out.size))
      obtain ⟨k0, k1, k2⟩ := (X1.out.on hb3).cells
      have hlt3 := lt_of_block (X1.out.on hb3)
      clear hb3
      have hcv : (convert 40 9 (.slice (some ⟨w3.heap.size, 0, none⟩) 1 1)).run Tryd.prog (w3.alloc (.cells #[.int .u8 0] 5)) = .ok (.string ⟨#[0]⟩) (w3.alloc (.cells #[.int .u8 0] 5)) := conv_one 0 w3
      go_wp2
      go_ret
      exact ⟨rfl, B3.out.alloc B3.out.size _⟩
    · have e : keyS 1 N S = ⟨#[1]⟩ ++ bs (fixF 8 (off N)) := by
        unfold keyS keyL
        rw [hS, if_pos (good_int N), if_neg (by decide), if_pos rfl, show (⟨#[1]⟩ : ByteArray) = bs [1] from rfl, bs_append]
        rfl
      rw [e]
      have hw := off_wrap hN
      clear e hS hg hN g
      have h8 : ¬ 9223372036854775807 < (⟨#[1]⟩ : ByteArray).size + (bs (fixF 8 (off N))).size := by
        rw [bs_size, Num.fixF_length]; decide
      go_enter Tryd.func14, Tryd.ntmps14
      go_wp2_with fail
      refine (HG.out _).mono ?_
      rintro e w3 ⟨rfl, hb3⟩
      have B3 := hid (B1.out.trans (hb3.mono B1.out.size))
      obtain ⟨k0, k1, k2⟩ := (X1.out.on hb3).cells
      have hlt3 := lt_of_block (X1.out.on hb3)
      clear hb3
      have hcv : (convert 40 9 (.slice (some ⟨w3.heap.size, 0, none⟩) 1 1)).run Tryd.prog (w3.alloc (.cells #[.int .u8 1] 5)) = .ok (.string ⟨#[1]⟩) (w3.alloc (.cells #[.int .u8 1] 5)) := conv_one 1 w3
      go_wp2_with fail
      refine (fix8_off N HN.out _).mono ?_
      rintro e w4 ⟨rfl, hb4⟩
      have B4 := hid ((B3.out.alloc B3.out.size (.cells #[.int .u8 1] 5)).trans (hb4.mono (by have := B3.out.size; simp; omega)))
      clear hb4
      go_wp2
      go_ret
      exact ⟨rfl, B4.out⟩
    · have e : keyS K 0 S = bs [UInt8.ofNat K.toNat] ++ bs (stuff (bl S)) ++ ⟨#[0, 1]⟩ := by
        have gK : Good K 0 (bl S) := Or.inr (Or.inr ⟨hK, rfl, hS⟩)
        unfold keyS keyL
        rw [if_pos gK, if_neg (by omega), if_neg (by omega), show (⟨#[0, 1]⟩ : ByteArray) = bs [0, 1] from rfl, bs_append, bs_append]
        simp
      rw [e]
      have hsl := stuff_length (bl S)
      have hz2 : S.size ≤ 2000 := hz.out
      have h8 : ¬ 9223372036854775807 < (bs [UInt8.ofNat K.toNat]).size + (bs (stuff (bl S))).size := by
        rw [bs_size, bs_size]; simp; omega
      have h9 : ¬ 9223372036854775807 < 1 + (bs (stuff (bl S))).size + 2 := by
        rw [bs_size, bl_len] at *; omega
      clear e hS hg hN g hsl hz2
      rcases hK with rfl | rfl
      · have e8 : bs [UInt8.ofNat (2 : Int).toNat] = ⟨#[2]⟩ := rfl
        rw [e8] at h8 ⊢
        go_enter Tryd.func14, Tryd.ntmps14
        go_wp2_with fail
        refine (HG.out _).mono ?_
        rintro e w3 ⟨rfl, hb3⟩
        have B3 := hid (B1.out.trans (hb3.mono B1.out.size))
        obtain ⟨k0, k1, k2⟩ := (X1.out.on hb3).cells
        have hlt3 := lt_of_block (X1.out.on hb3)
        clear hb3
        have hcv : (convert 40 9 (.slice (some ⟨w3.heap.size, 0, none⟩) 1 1)).run Tryd.prog (w3.alloc (.cells #[.int .u8 2] 5)) = .ok (.string ⟨#[2]⟩) (w3.alloc (.cells #[.int .u8 2] 5)) := conv_one 2 w3
        go_wp2_with fail
        refine (repl_any S hz.out _ ((Hg.out.on B3.out).on ((Below.refl _ _).alloc (Nat.le_refl _) _))).mono ?_
        rintro e w4 ⟨rfl, hb4⟩
        have B4 := hid ((B3.out.alloc B3.out.size (.cells #[.int .u8 2] 5)).trans (hb4.mono (by have := B3.out.size; simp; omega)))
        clear hb4
        go_wp2
        go_ret
        exact ⟨rfl, B4.out⟩
      · have e8 : bs [UInt8.ofNat (3 : Int).toNat] = ⟨#[3]⟩ := rfl
        rw [e8] at h8 ⊢
        go_enter Tryd.func14, Tryd.ntmps14
        go_wp2_with fail
        refine (HG.out _).mono ?_
        rintro e w3 ⟨rfl, hb3⟩
        have B3 := hid (B1.out.trans (hb3.mono B1.out.size))
        obtain ⟨k0, k1, k2⟩ := (X1.out.on hb3).cells
        have hlt3 := lt_of_block (X1.out.on hb3)
        clear hb3
        have hcv : (convert 40 9 (.slice (some ⟨w3.heap.size, 0, none⟩) 1 1)).run Tryd.prog (w3.alloc (.cells #[.int .u8 3] 5)) = .ok (.string ⟨#[3]⟩) (w3.alloc (.cells #[.int .u8 3] 5)) := conv_one 3 w3
        go_wp2_with fail
        refine (repl_any S hz.out _ ((Hg.out.on B3.out).on ((Below.refl _ _).alloc (Nat.le_refl _) _))).mono ?_
        rintro e w4 ⟨rfl, hb4⟩
        have B4 := hid ((B3.out.alloc B3.out.size (.cells #[.int .u8 3] 5)).trans (hb4.mono (by have := B3.out.size; simp; omega)))
        clear hb4
        go_wp2
        go_ret
        exact ⟨rfl, B4.out⟩
end Va
end Go.Proofs.YtpabhekbkdpkiaaDoor
