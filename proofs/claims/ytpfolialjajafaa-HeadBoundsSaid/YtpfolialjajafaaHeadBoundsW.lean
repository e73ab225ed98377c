/-
  The walk of HeadBounds: it answers true; the old memory stays.
-/
import Derived.Test.YtpfolialjajafaaHeadReadsW
namespace Go.Proofs.Ytpfolialjajafaa.headBounds
open Go.RowKit Go.Proofs.Ytpfolialjajafaa.Head
open Num (hid)

/-- What Decode answers without an error is fit. -/
theorem dec_fit (s : ByteArray) : ∃ M P T S R C : Int, decV s = .agg #[.int .i64 M, .int .i64 P, .int .i64 T, .int .i64 S, .int .i64 R, .int .u64 C] ∧ ((decE s = 0 ∧ Fit M P T S R) ∨ decE s = 1 ∨ decE s = 4) := by
  unfold decV decE
  by_cases h : s.size = 232
  · by_cases hr : Right s
    · rw [if_pos ⟨h, hr⟩, if_pos h, if_pos hr]
      exact ⟨_, _, _, _, _, _, rfl, Or.inl ⟨rfl, hr.1⟩⟩
    · rw [if_neg (fun hh => hr hh.2), if_pos h, if_neg hr]
      exact ⟨_, _, _, _, _, _, rfl, Or.inr (Or.inr rfl)⟩
  · rw [if_neg (fun hh => h hh.1), if_neg h]
    exact ⟨_, _, _, _, _, _, rfl, Or.inr (Or.inl rfl)⟩

set_option maxRecDepth 100000 in
set_option maxHeartbeats 1000000 in
theorem walk (s : ByteArray) (w : World) :
    Calls Try.prog 6 #[.string s] w fun e w' => e = .returned (.bool true) ∧ Below w.heap.size w w' := by
  have h1 := dec_any s
  obtain ⟨M, P, T, S, R, C, hV, hE⟩ := dec_fit s
  rw [hV] at h1
  rcases hE with ⟨he, hf⟩ | he | he
  · rw [he] at h1
    have H1 := hid h1
    clear h1 hV he
    unfold Fit at hf
    obtain ⟨hm, f1, f2, ⟨f3, f4⟩, ⟨f5, f6⟩, ⟨f7, f8⟩, f9⟩ := hf
    clear f9
    rcases hm with rfl | rfl
    all_goals
      go_enter Try.func6, Try.ntmps6
      go_wp2_with fail
      refine (awake_any _).mono ?_
      rintro e w1 ⟨rfl, hb1⟩
      go_wp2_with fail
      refine (H1.out _).mono ?_
      rintro e w2 ⟨rfl, hb2⟩
      have B2 := hb1.trans (hb2.mono hb1.size)
      clear hb1 hb2
      go_wp2
      go_ret
      exact ⟨rfl, B2.alloc B2.size _⟩
  all_goals
    rw [he] at h1
    have H1 := hid h1
    clear h1 hV he
    go_enter Try.func6, Try.ntmps6
    go_wp2_with fail
    refine (awake_any _).mono ?_
    rintro e w1 ⟨rfl, hb1⟩
    go_wp2_with fail
    refine (H1.out _).mono ?_
    rintro e w2 ⟨rfl, hb2⟩
    have B2 := hb1.trans (hb2.mono hb1.size)
    clear hb1 hb2
    go_wp2
    go_ret
    exact ⟨rfl, B2.alloc B2.size _⟩

end Go.Proofs.Ytpfolialjajafaa.headBounds
