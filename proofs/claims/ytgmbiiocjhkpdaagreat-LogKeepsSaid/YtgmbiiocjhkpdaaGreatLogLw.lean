/-
  A log of these frames over a calm disk, for the laws: what each call leaves of it.
-/
import Derived.Test.YtgmbiiocjhkpdaaGreatLogPH
namespace Go.Proofs.YtgmbiiocjhkpdaaGreat
open Go.RowKit Go.Shelf
namespace Lo
open Num (hid)
open Disk (Mod Fil Sees Stays arm_sees off_sees on_sees)
open Mem (Bs bs LAt iV tI Chg ptr blk_cell blk_free blk_new blk_set blk_other blk_alloc row_kept row_shape row_type)
variable {O O' : Nat → Prop} {d m j b : Nat} {f f' : Value} {M M' : Mod} {w w' : World} {l : List Fm} {A : Nat} {r : Int}
abbrev Bl (N : Nat) : Nat → Prop := fun k => k < N
theorem bl_below {N : Nat} {w w' : World} (h : Stays (Bl N) w w') (hN : N ≤ w.heap.size) : Below N w w' := Disk.Chg.below h hN (fun _ hk hx => hx hk)
theorem new_sees (n : Int) (w : World) : Calls Tryz.prog 8 #[.int .i64 n] w fun e w' => ∃ d m, e = .returned (ptr d) ∧ Sees (Bl w.heap.size) d m (Mod.new n) w' ∧ Below w.heap.size w w' := by
  refine (Disk.new_has n w).mono ?_
  rintro e w' ⟨rfl, h, hb⟩
  exact ⟨_, _, rfl, Disk.Sees.of_has h, hb⟩
/-- Fates that came in. -/
theorem ints_at {w0 w : World} {v : Value} {l : List Int} (h : LAt 1 iV w0 v l) (hb : Below w0.heap.size w0 w) : Disk.IntsAt w v l ∧ l.length ≤ maxLen ∧ ∀ b o n cap, v = .slice (some ⟨b, o, none⟩) n cap → n ≠ 0 → b < w0.heap.size := by
  obtain ⟨h1, h2⟩ := h.on hb
  refine ⟨?_, h2, ?_⟩
  · rcases h1 with h1 | ⟨b, o, cap, e, hc, hb', hj⟩
    · exact Or.inl h1
    · exact Or.inr ⟨b, o, cap, e, hb', fun k hk => by have := hj k hk 0 (by decide); simpa [iV] using this⟩
  · intro b o n cap e hn
    rcases h.1 with ⟨ao, cap', e', _⟩ | ⟨b', o', cap', e', _, hb', _⟩
    · rw [e] at e'; injection e' with _ e2; exact absurd e2 hn
    · rw [e] at e'; injection e' with e1 _; injection e1 with e1; injection e1 with e1; rw [e1]; exact hb'
/-- A log of the frames l at j over a calm disk of r sectors, of whose sectors the first A are safe. -/
structure AW (O : Nat → Prop) (d m j b : Nat) (r : Int) (l : List Fm) (A : Nat) (w : World) : Prop where
  ex : ∃ f M L, PL O d m j b f M (frs l) w ∧ M.fs = dir1 L ∧ Stands l A L ∧ Jo.Calm M.c ∧ M.c.room = r
theorem AW.on (h : AW O d m j b r l A w) (hb : Below w.heap.size w w') : AW O d m j b r l A w' := by
  obtain ⟨f, M, L, h1, h2⟩ := h.ex
  exact ⟨f, M, L, h1.on hb, h2⟩
theorem AW.start (h : PL O d m j b f M [] w) (hf : M.fs = dir1 none) (hc : Jo.Calm M.c) : AW O d m j b M.c.room [] 0 w := ⟨f, M, none, h, hf, stands_none, hc, rfl⟩
/-- The log of a new disk. -/
theorem aw_new (h : Sees O d m (Mod.new r) w) : Calls Tryz.prog 10 #[ptr d] w fun e w' => ∃ j b, e = .returned (.tuple #[ptr j, .int .i64 0]) ∧ AW O d m j b (Mod.new r).c.room [] 0 w' ∧ Stays O w w' := by
  have ho := open_any_ h
  rw [(open_none (l := []) (new_dir r) (new_calm r) rfl).1] at ho
  refine ho.mono ?_
  rintro e w' ⟨_, j, b, f, rfl, h1, h2⟩
  exact ⟨j, b, rfl, AW.start h1 (new_dir r) (new_calm r), h2⟩
theorem aw_add (h : AW O d m j b r l A w) (x : Fm) (hx : x.1 < 4096) (hl : l.length < 15000) (hr : ((l.length + 1 : Nat) : Int) < r) :
    Calls Tryz.prog 12 #[ptr j, .int .i64 (x.1 : Nat), .string (bs (pgL x.2.1)), .bool x.2.2] w fun e w' => e = .returned (.int .i64 0) ∧ AW O d m j b r (l ++ [x]) A w' ∧ Stays O w w' := by
  obtain ⟨f, M, L, h1, h2, h3, h4, h5⟩ := h.ex
  refine (add_any h1 (by rw [frs_len]; exact hl) (x.1 : Int) (pgL x.2.1) x.2.2).mono ?_
  rintro e w' ⟨rfl, f', hp, hs⟩
  have hcr : Jo.Calm M.c ∧ ((l.length + 1 : Nat) : Int) < M.c.room := ⟨h4, by rw [h5]; exact hr⟩
  rcases add_way h3 h2 x hx with ⟨e1, e2, ⟨L', e3, e4, _⟩, e5⟩ | ⟨_, e2, _⟩
  · rw [e2] at hp
    obtain ⟨e6, e7⟩ := e5 hcr
    exact ⟨by rw [e1], ⟨f', _, L', hp, e3, e4, e6, e7.trans h5⟩, hs⟩
  · exact absurd hcr e2
theorem aw_sync (h : AW O d m j b r l A w) : Calls Tryz.prog 15 #[ptr j] w fun e w' => e = .returned (.int .i64 0) ∧ (∃ A', AW O d m j b r l A' w' ∧ (l ≠ [] → A' = l.length + 1)) ∧ Stays O w w' := by
  obtain ⟨f, M, L, h1, h2, h3, h4, h5⟩ := h.ex
  refine (sync_any h1).mono ?_
  rintro e w' ⟨rfl, hp, hs⟩
  obtain ⟨e1, e2, e3, L', A', e4, e5, e6⟩ := sync_ok h3 h2 h4
  exact ⟨by rw [e1], ⟨A', ⟨f, _, L', hp, e4, e5, e2, e3.trans h5⟩, e6⟩, hs⟩
theorem aw_len (h : AW O d m j b r l A w) : Calls Tryz.prog 29 #[ptr j] w fun e w' => e = .returned (.int .i64 (l.length : Nat)) ∧ w = w' := by
  obtain ⟨f, M, L, h1, _⟩ := h.ex
  have := len_any h1
  rw [frs_len] at this
  exact this
theorem aw_get {q : List FI} (h : AW O d m j b r (fms q) A w) (n : Nat) (hn : n ≤ 4095) : Calls Tryz.prog 17 #[ptr j, .int .i64 (n : Nat)] w fun e w' => e = .returned (.tuple #[.string (bs (wantK q n q.length)), .bool (decide (wantK q n q.length ≠ [])), .int .i64 0]) ∧ AW O d m j b r (fms q) A w' ∧ Stays O w w' := by
  obtain ⟨f, M, L, h1, h2, h3, h4, h5⟩ := h.ex
  obtain ⟨M', e, hs⟩ := get_holds (h3.holds h2 h4) n
  have hg := get_any h1 (n : Int) (wf_of (by omega) (by omega))
  rw [e] at hg
  refine hg.mono ?_
  rintro e w' ⟨rfl, hp, hst⟩
  exact ⟨rfl, ⟨f, M', L, hp, hs.fs.trans h2, h3, hs.calm, hs.room.trans h5⟩, hst⟩
theorem aw_holds {q : List FI} {v : Value} (h : AW O d m j b r (fms q) A w) (hl : q.length ≤ 10000) (hr : RowIn O w v q) : Calls Tryz.prog 46 #[ptr j, v] w fun e w' => e = .returned (.bool true) ∧ AW O d m j b r (fms q) A w' ∧ Stays O w w' := by
  obtain ⟨f, M, L, h1, h2, h3, h4, h5⟩ := h.ex
  refine (holds_any h1 (h3.holds h2 h4) hl hr).mono ?_
  rintro e w' ⟨rfl, ⟨M', hp, hs⟩, hst⟩
  exact ⟨rfl, ⟨f, M', L, hp, hs.fs.trans h2, h3, hs.calm, hs.room.trans h5⟩, hst⟩
theorem aw_back (h : AW O d m j b r l 0 w) (k : Nat) (hk : k ≤ l.length) : Calls Tryz.prog 19 #[ptr j, .int .i64 (k : Nat)] w fun e w' => e = .returned (.int .i64 0) ∧ AW O d m j b r (l.take k) 0 w' ∧ Stays O w w' := by
  obtain ⟨f, M, L, h1, h2, h3, h4, h5⟩ := h.ex
  refine (back_any h1 (k : Int)).mono ?_
  rintro e w' ⟨rfl, f', hp, hs⟩
  obtain ⟨e1, e2, e3, e4, L', e5, e6⟩ := back_ok h3 h2 h4 hk
  rw [e2] at hp
  exact ⟨by rw [e1], ⟨f', _, L', hp, e5, e6, e3, e4.trans h5⟩, hs⟩
theorem aw_back_no (h : AW O d m j b r l A w) (k : Int) (hk : k < 0 ∨ (l.length : Int) < k) : Calls Tryz.prog 19 #[ptr j, .int .i64 k] w fun e w' => e = .returned (.int .i64 1) ∧ AW O d m j b r l A w' ∧ Stays O w w' := by
  obtain ⟨f, M, L, h1, h2, h3, h4, h5⟩ := h.ex
  have hb := back_any h1 k
  rw [back_arg hk] at hb
  refine hb.mono ?_
  rintro e w' ⟨rfl, f', hp, hs⟩
  exact ⟨rfl, ⟨f', M, L, hp, h2, h3, h4, h5⟩, hs⟩
/-- Open of the same disk, calm. -/
theorem aw_open (h : AW O d m j b r l A w) (hl : ∀ x ∈ l, x.1 < 4096) : Calls Tryz.prog 10 #[ptr d] w fun e w' => ∃ j' b' f' n M', e = .returned (.tuple #[ptr j', .int .i64 0]) ∧ PL O d m j' b' f' M' (frs (l.take n)) w' ∧ Found l (l.length + 1) n M' ∧ Stays O w w' := by
  obtain ⟨f, M, L, h1, h2, h3, h4, h5⟩ := h.ex
  obtain ⟨n, M', e, hF⟩ := open_holds hl (h3.holds h2 h4)
  have ho := open_any_ h1.seen
  rw [e] at ho
  refine ho.mono ?_
  rintro e w' ⟨_, j', b', f', rfl, hp, hs⟩
  exact ⟨j', b', f', n, M', rfl, hp, hF, hs⟩
end Lo
end Go.Proofs.YtgmbiiocjhkpdaaGreat
