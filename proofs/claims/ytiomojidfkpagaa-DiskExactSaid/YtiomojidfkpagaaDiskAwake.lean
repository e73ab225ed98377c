/-
  Contract of the statements' own awake: it answers true; the old memory stays.
-/
import Derived.Test.YtiomojidfkpagaaDiskHas
namespace Go.Proofs.Ytiomojidfkpagaa
open Go.RowKit
namespace Disk
open Num (hid bcells)

theorem write_f {N d m : Nat} {M : Mod} {w : World} (h : Has N d m M w) (i : Int) (p : List UInt8) (hp : p.length = 256) :
    Calls Try.prog 41 #[ptr d, .string ⟨#[102]⟩, .int .i64 i, .string ⟨p.toArray⟩] w fun e w' => e = .returned (.int .i64 (M.write [102] i p).1) ∧ Has N d m (M.write [102] i p).2 w' ∧ Below N w w' :=
  write_has h ⟨#[102]⟩ (by decide +kernel) i ⟨p.toArray⟩ (by
    have e : (⟨p.toArray⟩ : ByteArray).size = p.length := rfl
    rw [e, hp]; decide +kernel)
theorem read_f {N d m : Nat} {M : Mod} {w : World} (h : Has N d m M w) (i : Int) (hi : i ≤ 9223372036854775807) :
    Calls Try.prog 45 #[ptr d, .string ⟨#[102]⟩, .int .i64 i] w fun e w' => e = .returned (.tuple #[.string ⟨(M.read [102] i).1.toArray⟩, .int .i64 (M.read [102] i).2.1]) ∧ Has N d m (M.read [102] i).2.2 w' ∧ Below N w w' :=
  read_has h ⟨#[102]⟩ (by decide +kernel) i hi
theorem sync_f {N d m : Nat} {M : Mod} {w : World} (h : Has N d m M w) :
    Calls Try.prog 43 #[ptr d, .string ⟨#[102]⟩] w fun e w' => e = .returned (.int .i64 (M.sync [102]).1) ∧ Has N d m (M.sync [102]).2 w' ∧ Below N w w' :=
  sync_has h ⟨#[102]⟩ (by decide +kernel)
theorem pageL_len (b : UInt8) : (pageL b).length = 256 := List.length_replicate ..
theorem page_1 (w : World) : Calls Try.prog 42 #[.int .u8 1] w fun e w' => e = .returned (.string ⟨(pageL 1).toArray⟩) ∧ Below w.heap.size w w' := page_any 1 w
theorem page_2 (w : World) : Calls Try.prog 42 #[.int .u8 2] w fun e w' => e = .returned (.string ⟨(pageL 2).toArray⟩) ∧ Below w.heap.size w w' := page_any 2 w
theorem page_3 (w : World) : Calls Try.prog 42 #[.int .u8 3] w fun e w' => e = .returned (.string ⟨(pageL 3).toArray⟩) ∧ Below w.heap.size w w' := page_any 3 w
theorem page_4 (w : World) : Calls Try.prog 42 #[.int .u8 4] w fun e w' => e = .returned (.string ⟨(pageL 4).toArray⟩) ∧ Below w.heap.size w w' := page_any 4 w

def aw0 : Mod := Mod.new 10
def aw1 : Mod := (aw0.write [102] 0 (pageL 1)).2
def aw2 : Mod := (aw1.sync [102]).2
def aw3 : Mod := (aw2.write [102] 0 (pageL 2)).2
def aw4 : Mod := aw3.off
def aw5 : Mod := (aw4.read [102] 0).2.2
def aw6 : Mod := aw5.on [2]
def aw7 : Mod := (aw6.read [102] 0).2.2
def aw8 : Mod := (aw7.write [102] 0 (pageL 3)).2
def aw9 : Mod := (aw8.write [102] 1 (pageL 4)).2
def aw10 : Mod := aw9.off
def aw11 : Mod := aw10.on [0, 1]
def aw12 : Mod := (aw11.read [102] 0).2.2
def aw13 : Mod := (aw12.read [102] 1).2.2
def aw14 : Mod := aw13.arm 1 1 0
def aw15 : Mod := (aw14.sync [102]).2
def aw16 : Mod := (aw15.sync [102]).2
theorem r1 : (aw0.write [102] 0 (pageL 1)).1 = 0 := by decide +kernel
theorem r2 : (aw1.sync [102]).1 = 0 := by decide +kernel
theorem r3 : (aw2.write [102] 0 (pageL 2)).1 = 0 := by decide +kernel
theorem r5 : (aw4.read [102] 0).2.1 = 10 := by decide +kernel
theorem r7 : (aw6.read [102] 0).2.1 = 13 := by decide +kernel
theorem r12 : (aw11.read [102] 0).2.1 = 13 := by decide +kernel
theorem r13 : (aw12.read [102] 1).2.1 = 0 ∧ (aw12.read [102] 1).1 = pageL 4 := by decide +kernel
theorem r15 : (aw14.sync [102]).1 = 11 := by decide +kernel
theorem r16 : (aw15.sync [102]).1 = 0 := by decide +kernel
theorem rs : aw16.size [102] = 2 ∧ aw16.size [103] = -1 ∧ aw16.c.ops = 10 ∧ aw16.c.life = 2 := by decide +kernel

/-- How far it has come. -/
def At (w : World) (d m : Nat) (M : Mod) (wk : World) : Prop := Has w.heap.size d m M wk ∧ Below w.heap.size w wk
theorem At.next {w wk w2 : World} {d m : Nat} {M M' : Mod} (h : At w d m M wk) (h1 : Has w.heap.size d m M' w2) (h2 : Below w.heap.size wk w2) : At w d m M' w2 := ⟨h1, h.2.trans h2⟩
theorem At.below {w wk w2 : World} {d m : Nat} {M : Mod} (h : At w d m M wk) (hb : Below wk.heap.size wk w2) : At w d m M w2 := ⟨h.1.kept hb, h.2.trans (hb.mono h.2.size)⟩

set_option maxRecDepth 100000 in
set_option maxHeartbeats 4000000 in
theorem awake_any (w : World) : Calls Try.prog 9 #[] w fun e w' => e = .returned (.bool true) ∧ Below w.heap.size w w' := by
  go_enter Try.func9, Try.ntmps9
  go_wp2_with fail
  refine (new_has 10 w).mono ?_
  rintro e w1 ⟨rfl, h, hb⟩
  have H1 : Hid (At w (w.heap.size + 1) w.heap.size aw0 w1) := hid ⟨h, hb⟩
  clear h hb
  go_wp2_with fail
  refine (page_1 _).mono ?_
  rintro e w2 ⟨rfl, hb⟩
  have H2 := hid (H1.out.below hb)
  clear hb
  go_wp2_with fail
  refine (write_f H2.out.1 0 (pageL 1) (pageL_len 1)).mono ?_
  rintro e w3 ⟨rfl, h, hb⟩
  have H3 : Hid (At w (w.heap.size + 1) w.heap.size aw1 w3) := hid (H2.out.next h hb)
  clear h hb
  rw [r1]
  go_wp2_with fail
  refine (sync_f H3.out.1).mono ?_
  rintro e w4 ⟨rfl, h, hb⟩
  have H4 : Hid (At w (w.heap.size + 1) w.heap.size aw2 w4) := hid (H3.out.next h hb)
  clear h hb
  rw [r2]
  go_wp2_with fail
  refine (page_2 _).mono ?_
  rintro e w5 ⟨rfl, hb⟩
  have H5 := hid (H4.out.below hb)
  clear hb
  go_wp2_with fail
  refine (write_f H5.out.1 0 (pageL 2) (pageL_len 2)).mono ?_
  rintro e w6 ⟨rfl, h, hb⟩
  have H6 : Hid (At w (w.heap.size + 1) w.heap.size aw3 w6) := hid (H5.out.next h hb)
  clear h hb
  rw [r3]
  go_wp2_with fail
  refine (off_has H6.out.1).mono ?_
  rintro e w7 ⟨rfl, h, hb⟩
  have H7 : Hid (At w (w.heap.size + 1) w.heap.size aw4 w7) := hid (H6.out.next h hb)
  clear h hb
  go_wp2_with fail
  refine (read_f H7.out.1 0 (by omega)).mono ?_
  rintro e w8 ⟨rfl, h, hb⟩
  have H8 : Hid (At w (w.heap.size + 1) w.heap.size aw5 w8) := hid (H7.out.next h hb)
  clear h hb
  rw [r5]
  go_wp2_with fail
  refine (on_lit H8.out.1 [2] (by decide +kernel)).mono ?_
  rintro e w9 ⟨rfl, h, hb⟩
  have H9 : Hid (At w (w.heap.size + 1) w.heap.size aw6 w9) := hid (H8.out.next h hb)
  clear h hb
  go_wp2_with fail
  refine (read_f H9.out.1 0 (by omega)).mono ?_
  rintro e w10 ⟨rfl, h, hb⟩
  have H10 : Hid (At w (w.heap.size + 1) w.heap.size aw7 w10) := hid (H9.out.next h hb)
  clear h hb
  rw [r7]
  go_wp2_with fail
  refine (page_3 _).mono ?_
  rintro e w11 ⟨rfl, hb⟩
  have H11 := hid (H10.out.below hb)
  clear hb
  go_wp2_with fail
  refine (write_f H11.out.1 0 (pageL 3) (pageL_len 3)).mono ?_
  rintro e w12 ⟨rfl, h, hb⟩
  have H12 : Hid (At w (w.heap.size + 1) w.heap.size aw8 w12) := hid (H11.out.next h hb)
  clear h hb
  go_wp2_with fail
  refine (page_4 _).mono ?_
  rintro e w13 ⟨rfl, hb⟩
  have H13 := hid (H12.out.below hb)
  clear hb
  go_wp2_with fail
  refine (write_f H13.out.1 1 (pageL 4) (pageL_len 4)).mono ?_
  rintro e w14 ⟨rfl, h, hb⟩
  have H14 : Hid (At w (w.heap.size + 1) w.heap.size aw9 w14) := hid (H13.out.next h hb)
  clear h hb
  go_wp2_with fail
  refine (off_has H14.out.1).mono ?_
  rintro e w15 ⟨rfl, h, hb⟩
  have H15 : Hid (At w (w.heap.size + 1) w.heap.size aw10 w15) := hid (H14.out.next h hb)
  clear h hb
  go_wp2_with fail
  refine (on_lit H15.out.1 [0, 1] (by decide +kernel)).mono ?_
  rintro e w16 ⟨rfl, h, hb⟩
  have H16 : Hid (At w (w.heap.size + 1) w.heap.size aw11 w16) := hid (H15.out.next h hb)
  clear h hb
  go_wp2_with fail
  refine (read_f H16.out.1 0 (by omega)).mono ?_
  rintro e w17 ⟨rfl, h, hb⟩
  have H17 : Hid (At w (w.heap.size + 1) w.heap.size aw12 w17) := hid (H16.out.next h hb)
  clear h hb
  rw [r12]
  go_wp2_with fail
  refine (read_f H17.out.1 1 (by omega)).mono ?_
  rintro e w18 ⟨rfl, h, hb⟩
  have H18 : Hid (At w (w.heap.size + 1) w.heap.size aw13 w18) := hid (H17.out.next h hb)
  clear h hb
  rw [r13.1, r13.2]
  go_wp2_with fail
  refine (arm_has H18.out.1 1 1 0 (by omega) (by omega)).mono ?_
  rintro e w19 ⟨rfl, h, hb⟩
  have H19 : Hid (At w (w.heap.size + 1) w.heap.size aw14 w19) := hid (H18.out.next h hb)
  clear h hb
  go_wp2_with fail
  refine (sync_f H19.out.1).mono ?_
  rintro e w20 ⟨rfl, h, hb⟩
  have H20 : Hid (At w (w.heap.size + 1) w.heap.size aw15 w20) := hid (H19.out.next h hb)
  clear h hb
  rw [r15]
  go_wp2_with fail
  refine (sync_f H20.out.1).mono ?_
  rintro e w21 ⟨rfl, h, hb⟩
  have H21 : Hid (At w (w.heap.size + 1) w.heap.size aw16 w21) := hid (H20.out.next h hb)
  clear h hb
  rw [r16]
  go_wp2_with fail
  refine (page_4 _).mono ?_
  rintro e w22 ⟨rfl, hb⟩
  have H22 := hid (H21.out.below hb)
  clear hb
  go_wp2_with fail
  refine (size_has H22.out.1 ⟨#[102]⟩ (by decide +kernel)).mono ?_
  rintro e w' ⟨rfl, rfl⟩
  rw [show aw16.size (⟨#[102]⟩ : ByteArray).data.toList = 2 from rs.1]
  go_wp2_with fail
  refine (size_has H22.out.1 ⟨#[103]⟩ (by decide +kernel)).mono ?_
  rintro e w' ⟨rfl, rfl⟩
  rw [show aw16.size (⟨#[103]⟩ : ByteArray).data.toList = -1 from rs.2.1]
  go_wp2_with fail
  refine (ops_has H22.out.1).mono ?_
  rintro e w' ⟨rfl, rfl⟩
  rw [rs.2.2.1]
  go_wp2_with fail
  refine (life_has H22.out.1).mono ?_
  rintro e w' ⟨rfl, rfl⟩
  rw [rs.2.2.2]
  go_wp2
  go_ret
  exact ⟨rfl, H22.out.2⟩

end Disk
end Go.Proofs.Ytiomojidfkpagaa
