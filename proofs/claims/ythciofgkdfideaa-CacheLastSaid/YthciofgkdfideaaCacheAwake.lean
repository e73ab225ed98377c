/-
  The statements' awake answers true.
-/
import Derived.Test.YthciofgkdfideaaCacheDirty
namespace Go.Proofs.Ythciofgkdfideaa
open Go.RowKit
namespace Ca
open Num (hid)
open Mem (Bs bs tI tS Chg Row ptr blk_cell blk_free blk_new blk_set blk_other blk_alloc)
/-- A cache of the call's own, made behind N. -/
def Mine (N : Nat) (w0 : World) (c size : Nat) (l : Row) (w : World) : Prop := CA (fun k => N ≤ k) w c size l ∧ Below N w0 w ∧ N ≤ w.heap.size
variable {N : Nat} {w0 w : World} {c size : Nat} {l : Row} {n : Int}
theorem Mine.go {l' : Row} {w' : World} (h : Mine N w0 c size l w) (h1 : CA (fun k => N ≤ k) w' c size l') (h2 : Chg (fun k => N ≤ k) w w') : Mine N w0 c size l' w' :=
  ⟨h1, h.2.1.trans (h2.below h.2.2 (fun k hk e => by omega)), Nat.le_trans h.2.2 h2.size⟩
theorem Mine.new (size : Int) (w : World) : Calls Try.prog 7 #[.int .i64 size] w fun e w' => ∃ c, e = .returned (ptr c) ∧ Mine w.heap.size w c (clamp size) [] w' := by
  refine (new_any size w).mono ?_
  rintro e w' ⟨c, rfl, -, h1, h2⟩
  exact ⟨c, rfl, h1, h2, h2.size⟩
theorem Mine.put (h : Mine N w0 c size l w) (hd : (nos l).Nodup) (hl : l.length ≤ 800) (hn : Wf n) {d : Bs} (hf : Fits d) (dt : Bool) {s : ByteArray} (hs : bs d = s) {o : List Pg} (ho : outM size n d dt l = o) {l' : Row} (hl' : putM size n d dt l = l') :
    Calls Try.prog 12 #[ptr c, .int .i64 n, .string s, .bool dt] w fun e w' => ∃ ao cap, e = .returned (.slice ao o.length cap) ∧ PR (fun g => N ≤ g) w' (.slice ao o.length cap) o ∧ Mine N w0 c size l' w' := by
  subst hs ho hl'
  have h2 := h.2.2
  refine (put_any h.1 hd hl (fun k hk => by omega) hn hf dt).mono ?_
  rintro e w' ⟨vp, rfl, hp, h1, h3⟩
  obtain ⟨ao, cap, rfl, -⟩ := Mem.row_shape hp.1
  exact ⟨ao, cap, rfl, ⟨hp.1, fun g hg => by have := hp.2 g hg; omega⟩, h.go h1 h3⟩
theorem Mine.get (h : Mine N w0 c size l w) (hd : (nos l).Nodup) (hf : ∀ x ∈ l, Fits x.d) (hn : Wf n) {x : One × Bool} (hx : foundM n l = x) {l' : Row} (hl : getM n l = l') :
    Calls Try.prog 9 #[ptr c, .int .i64 n] w fun e w' => e = .returned (.tuple #[.string (bs x.1.d), .bool x.2]) ∧ Mine N w0 c size l' w' := by
  subst hx hl
  refine (get_any h.1 hd hf hn).mono ?_
  rintro e w' ⟨rfl, h1, h3⟩
  exact ⟨rfl, h.go h1 h3⟩
theorem Mine.len (h : Mine N w0 c size l w) : Calls Try.prog 19 #[ptr c] w fun e w' => e = .returned (.int .i64 (l.length : Nat)) ∧ w = w' := len_any h.1
theorem Mine.dirty (h : Mine N w0 c size l w) (hd : (nos l).Nodup) (hl : l.length ≤ 900) (hf : ∀ x ∈ l, Fits x.d) :
    Calls Try.prog 20 #[ptr c] w fun e w' => ∃ ao cap, e = .returned (.slice ao (dirtyM l).length cap) ∧ PR (fun g => w.heap.size ≤ g) w' (.slice ao (dirtyM l).length cap) (dirtyM l) ∧ Mine N w0 c size l w' ∧ Below w.heap.size w w' := by
  refine (dirty_any h.1 hd hl hf).mono ?_
  rintro e w' ⟨v, rfl, hp, hb⟩
  obtain ⟨ao, cap, rfl, -⟩ := Mem.row_shape hp.1
  exact ⟨ao, cap, rfl, hp, h.go (h.1.on hb) (Chg.of_below hb), hb⟩
def a1 : Row := [⟨1, [97], true⟩]
def a2 : Row := [⟨1, [97], true⟩, ⟨2, [98], false⟩]
def a3 : Row := [⟨2, [98], false⟩, ⟨1, [97], true⟩]
def a4 : Row := [⟨1, [97], true⟩, ⟨3, [99], false⟩]
def a5 : Row := [⟨3, [99], false⟩, ⟨4, [100], false⟩]
theorem fits_one (x : UInt8) : Fits [x] := by
  show ([x] : List UInt8).length ≤ 281474976710656
  simp
set_option maxRecDepth 100000 in
set_option maxHeartbeats 4000000 in
theorem awake_any (w : World) : Calls Try.prog 6 #[] w fun e w' => e = .returned (.bool true) ∧ Below w.heap.size w w' := by
  have H0 := hid (Mine.new 2 w)
  have f4 : ∀ x ∈ a4, Fits x.d := by intro x hx; simp only [a4, List.mem_cons, List.not_mem_nil, or_false] at hx; rcases hx with rfl | rfl <;> exact fits_one _
  have f5 : ∀ x ∈ a5, Fits x.d := by intro x hx; simp only [a5, List.mem_cons, List.not_mem_nil, or_false] at hx; rcases hx with rfl | rfl <;> exact fits_one _
  have f2 : ∀ x ∈ a2, Fits x.d := by intro x hx; simp only [a2, List.mem_cons, List.not_mem_nil, or_false] at hx; rcases hx with rfl | rfl <;> exact fits_one _
  have H1 := hid (fun c wz (h : Mine w.heap.size w c 2 [] wz) => (h.put (n := 1) (d := [97]) List.nodup_nil (by decide) (wf_of (by decide) (by decide)) (fits_one _) true (s := ⟨#[97]⟩) rfl (o := []) rfl (l' := a1) rfl))
  have H2 := hid (fun c wz (h : Mine w.heap.size w c 2 a1 wz) => (h.put (n := 2) (d := [98]) (by decide) (by decide) (wf_of (by decide) (by decide)) (fits_one _) false (s := ⟨#[98]⟩) rfl (o := []) rfl (l' := a2) rfl))
  have H3 := hid (fun c wz (h : Mine w.heap.size w c 2 a2 wz) => (h.get (n := 1) (by decide) f2 (wf_of (by decide) (by decide)) (x := (⟨1, [97], true⟩, true)) rfl (l' := a3) rfl))
  have H4 := hid (fun c wz (h : Mine w.heap.size w c 2 a3 wz) => (h.put (n := 3) (d := [99]) (by decide) (by decide) (wf_of (by decide) (by decide)) (fits_one _) false (s := ⟨#[99]⟩) rfl (o := []) rfl (l' := a4) rfl))
  have H5 := hid (fun c wz (h : Mine w.heap.size w c 2 a4 wz) => (h.put (n := 4) (d := [100]) (by decide) (by decide) (wf_of (by decide) (by decide)) (fits_one _) false (s := ⟨#[100]⟩) rfl (o := [(1, [97])]) rfl (l' := a5) rfl))
  have H7 := hid (fun c wz (h : Mine w.heap.size w c 2 a5 wz) => (h.dirty (by decide) (by decide) f5))
  have H6 := hid (fun c wz (h : Mine w.heap.size w c 2 a5 wz) => h.len)
  rw [show dirtyM a5 = [] from rfl] at H7
  rw [show (a5.length : Nat) = 2 from rfl] at H6
  have eb : bs [97] = ⟨#[97]⟩ := rfl
  rw [show clamp 2 = 2 from rfl] at H0
  simp only [List.length_nil, List.length_cons, eb, Nat.zero_add] at H1 H2 H3 H4 H5 H6 H7
  clear f2 f4 f5 eb
  go_enter Try.func6, Try.ntmps6
  go_wp2_with fail
  refine H0.out.mono ?_
  rintro e w1 ⟨c, rfl, h⟩
  have K1 := hid (H1.out c w1 h)
  clear h
  go_wp2_with fail
  refine K1.out.mono ?_
  rintro e w2 ⟨ao1, cap1, rfl, -, h⟩
  have K2 := hid (H2.out c w2 h)
  clear h
  go_wp2_with fail
  refine K2.out.mono ?_
  rintro e w3 ⟨ao2, cap2, rfl, -, h⟩
  have K3 := hid (H3.out c w3 h)
  clear h
  go_wp2_with fail
  refine K3.out.mono ?_
  rintro e w4 ⟨rfl, h⟩
  have K4 := hid (H4.out c w4 h)
  clear h
  go_wp2_with fail
  refine K4.out.mono ?_
  rintro e w5 ⟨ao3, cap3, rfl, -, h⟩
  have K5 := hid (H5.out c w5 h)
  clear h
  go_wp2_with fail
  refine K5.out.mono ?_
  rintro e w6 ⟨ao4, cap4, rfl, hp, h⟩
  have K6 := hid (H6.out c w6 h)
  have K7 := hid (H7.out c w6 h)
  obtain ⟨ao5, cap5, hv, hx⟩ := hp.cells
  obtain ⟨g, hao, hg, x0, x1⟩ := hx 0 (by decide)
  cases hv
  subst hao
  simp only [List.getElem_cons_zero, Nat.zero_mul, Nat.zero_add, show bs [97] = ⟨#[97]⟩ from rfl] at x0 x1
  clear hp h hx
  go_wp2_with fail
  refine K6.out.mono ?_
  rintro e w7 ⟨rfl, rfl⟩
  clear x0 x1 hg
  go_wp2_with fail
  refine K7.out.mono ?_
  rintro e w8 ⟨ao6, cap6, rfl, -, h, -⟩
  have HF := hid h.2.1
  clear h
  go_wp2
  go_ret
  exact ⟨rfl, HF.out⟩
end Ca
end Go.Proofs.Ythciofgkdfideaa
