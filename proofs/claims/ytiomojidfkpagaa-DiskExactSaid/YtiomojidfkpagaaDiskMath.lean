/-
  A disk, plainly: sectors, places, files, what is armed, names.
-/
import GoSem.ClaimWide
import Derived.RowKit
namespace Go.Proofs.Ytiomojidfkpagaa
open Go.RowKit
namespace Disk

/-- A sector: its bytes, or torn. -/
abbrev Sec := Option (List UInt8)
abbrev Nam := List UInt8
structure Plc where
  now : Sec
  safe : Option Sec
  waits : Bool
structure Fil where
  ps : List Plc
  sure : Bool
structure Ctl where
  room : Int
  kind : Int
  at_ : Int
  more : Int
  down : Bool
  ops : Int
  life : Int

def zeros : List UInt8 := List.replicate 256 0
theorem zeros_len : zeros.length = 256 := List.length_replicate ..
/-- The first 256 bytes, bytes 0 for those that lack. -/
def fitted (l : List UInt8) : List UInt8 := l.take 256 ++ List.replicate (256 - l.length) 0
theorem fitted_len (l : List UInt8) : (fitted l).length = 256 := by simp [fitted]; omega
theorem fitted_full (l : List UInt8) (h : l.length = 256) : fitted l = l := by
  unfold fitted
  rw [h, List.take_of_length_le (by omega), Nat.sub_self, List.replicate_zero, List.append_nil]

/-! ### what is armed -/
def inc (n : Int) : Int := wrap64 (n + 1)
def Ctl.offed (c : Ctl) : Ctl := { c with kind := 0, at_ := 0, more := 0, down := true, life := if c.down then c.life else inc c.life }
/-- The fault that the next operation has, 0 for none; what is armed behind it. -/
def Ctl.fault (c : Ctl) : Int := if c.at_ = 1 then c.kind else 0
def Ctl.stepped (c : Ctl) : Ctl :=
  if c.at_ = 0 then c
  else if c.at_ = 1 then (if 0 < c.more then { c with more := c.more - 1 } else { c with kind := 0, at_ := 0, more := 0 })
  else { c with at_ := c.at_ - 1 }
def Ctl.counted (c : Ctl) : Ctl := ({ c with ops := inc c.ops } : Ctl).stepped
/-- The refusal of an operation, 0 for none. -/
def Ctl.refusal (c : Ctl) (fit : Bool) : Int :=
  if !fit then 1 else if c.down then 10 else if c.fault = 1 then 11 else if c.fault = 2 then 10 else 0
def Ctl.begun (c : Ctl) (fit : Bool) : Ctl :=
  if !fit then c else if c.down then c else if c.fault = 2 then c.counted.offed else c.counted
def Ctl.armed (c : Ctl) (at_ kind more : Int) : Ctl :=
  if at_ < 1 then { c with kind := 0, at_ := 0, more := 0 }
  else if kind = 1 then { c with kind := 1, at_ := at_, more := max more 0 }
  else if kind = 2 then { c with kind := 2, at_ := at_, more := 0 }
  else { c with kind := 0, at_ := 0, more := 0 }
def clamp (n : Int) : Int := min (max n 0) 16384
/-- What may be armed. -/
structure Ctl.Ok (c : Ctl) : Prop where
  room : 0 ≤ c.room ∧ c.room ≤ 16384
  at_ : 0 ≤ c.at_ ∧ c.at_ ≤ 9223372036854775807
  more : 0 ≤ c.more ∧ c.more ≤ 9223372036854775807
  none : c.at_ = 0 → c.kind = 0 ∧ c.more = 0
  some : c.at_ ≠ 0 → c.kind = 1 ∨ c.kind = 2 ∧ c.more = 0

theorem Ctl.Ok.stepped {c : Ctl} (h : c.Ok) : c.stepped.Ok := by
  obtain ⟨h1, h2, h3, h4, h5⟩ := h
  unfold Ctl.stepped
  split
  · exact ⟨h1, h2, h3, h4, h5⟩
  · split
    · split
      · exact ⟨h1, h2, ⟨by show 0 ≤ c.more - 1; omega, by show c.more - 1 ≤ _; omega⟩, fun e => absurd e (by assumption), fun e => by have := h5 e; show c.kind = 1 ∨ c.kind = 2 ∧ c.more - 1 = 0; omega⟩
      · exact ⟨h1, by simp, by simp, fun _ => ⟨rfl, rfl⟩, fun e => absurd rfl e⟩
    · exact ⟨h1, ⟨by show 0 ≤ c.at_ - 1; omega, by show c.at_ - 1 ≤ _; omega⟩, h3, fun e => by exfalso; have e' : c.at_ - 1 = 0 := e; omega, fun _ => h5 (by assumption)⟩
theorem Ctl.Ok.opsed {c : Ctl} (h : c.Ok) (n : Int) : ({ c with ops := n } : Ctl).Ok := ⟨h.room, h.at_, h.more, h.none, h.some⟩
theorem Ctl.Ok.counted {c : Ctl} (h : c.Ok) : c.counted.Ok := (h.opsed _).stepped
theorem Ctl.Ok.offed {c : Ctl} (h : c.Ok) : c.offed.Ok := ⟨h.room, by simp [Ctl.offed], by simp [Ctl.offed], fun _ => ⟨rfl, rfl⟩, fun e => absurd rfl e⟩
theorem Ctl.Ok.begun {c : Ctl} (h : c.Ok) (fit : Bool) : (c.begun fit).Ok := by
  unfold Ctl.begun
  repeat' split
  · exact h
  · exact h
  · exact h.counted.offed
  · exact h.counted
theorem Ctl.Ok.armed {c : Ctl} (h : c.Ok) (a k m : Int) (ha : a ≤ 9223372036854775807) (hm : m ≤ 9223372036854775807) : (c.armed a k m).Ok := by
  unfold Ctl.armed
  split
  · exact ⟨h.room, by simp, by simp, fun _ => ⟨rfl, rfl⟩, fun e => absurd rfl e⟩
  · split
    · exact ⟨h.room, ⟨by show 0 ≤ a; omega, ha⟩, ⟨by show 0 ≤ max m 0; omega, by show max m 0 ≤ _; omega⟩, fun e => by exfalso; have e' : a = 0 := e; omega, fun _ => Or.inl rfl⟩
    · split
      · exact ⟨h.room, ⟨by show 0 ≤ a; omega, ha⟩, by simp, fun e => by exfalso; have e' : a = 0 := e; omega, fun _ => Or.inr ⟨rfl, rfl⟩⟩
      · exact ⟨h.room, by simp, by simp, fun _ => ⟨rfl, rfl⟩, fun e => absurd rfl e⟩
theorem Ctl.Ok.roomed {c : Ctl} (h : c.Ok) (n : Int) : ({ c with room := clamp n } : Ctl).Ok := ⟨by show 0 ≤ clamp n ∧ clamp n ≤ 16384; unfold clamp; omega, h.at_, h.more, h.none, h.some⟩

/-! ### files -/
def Fil.grown (F : Fil) (i : Nat) : List Plc := if i = F.ps.length then F.ps ++ [⟨some zeros, none, false⟩] else F.ps
def Fil.write (F : Fil) (i : Nat) (s : List UInt8) : Fil :=
  if i = F.ps.length then { F with ps := F.ps ++ [⟨some s, none, true⟩] } else { F with ps := match F.ps[i]? with | some p => F.ps.set i ⟨some s, p.safe, true⟩ | none => F.ps }
def Fil.sync (F : Fil) : Fil := ⟨F.ps.map fun p => ⟨p.now, some p.now, false⟩, true⟩
def Fil.cut (F : Fil) (n : Nat) : Fil := ⟨F.ps.take n, true⟩
def Fil.bytes (F : Fil) : List UInt8 := F.ps.flatMap fun p => p.now.getD zeros
def fateAt (fates : List Int) (k : Nat) : Int := if fates.length = 0 then 0 else fates.getD (k % fates.length) 0
def Plc.meet (p : Plc) (f : Int) : Plc := if f = 1 then { p with safe := some p.now } else if f = 2 then { p with safe := some none } else p
def met1 (fates : List Int) (k : Nat) (p : Plc) : Plc := if p.waits then p.meet (fateAt fates k) else p
def count1 (k : Nat) (p : Plc) : Nat := if p.waits then k + 1 else k
def mets (fates : List Int) : Nat → List Plc → List Plc
  | _, [] => []
  | k, p :: r => met1 fates k p :: mets fates (count1 k p) r
def counts (k : Nat) (l : List Plc) : Nat := l.foldl count1 k
/-- Behind the last place that has a safe state. -/
def endOf (l : List Plc) : Nat := l.foldl (fun (s : Nat × Nat) p => (s.1 + 1, if p.safe.isSome then s.1 + 1 else s.2)) (0, 0) |>.2
def Plc.rise (p : Plc) : Plc := ⟨p.safe.getD (some zeros), some (p.safe.getD (some zeros)), false⟩
def Fil.woken (F : Fil) (fates : List Int) (k : Nat) : Fil :=
  ⟨((mets fates k F.ps).take (endOf (mets fates k F.ps))).map Plc.rise, true⟩
def Fil.lives (F : Fil) (fates : List Int) (k : Nat) : Bool := F.sure || endOf (mets fates k F.ps) != 0

theorem mets_len (fates : List Int) : ∀ (l : List Plc) (k : Nat), (mets fates k l).length = l.length
  | [], _ => rfl
  | p :: r, k => by simp [mets, mets_len fates r]
theorem mets_append (fates : List Int) : ∀ (a b : List Plc) (k : Nat), mets fates k (a ++ b) = mets fates k a ++ mets fates (counts k a) b
  | [], _, _ => rfl
  | p :: r, b, k => by simp [mets, counts, mets_append fates r b]
theorem counts_append (k : Nat) (a b : List Plc) : counts k (a ++ b) = counts (counts k a) b := by simp [counts]
theorem endOf_fold : ∀ (l : List Plc) (a e : Nat), (l.foldl (fun (s : Nat × Nat) p => (s.1 + 1, if p.safe.isSome then s.1 + 1 else s.2)) (a, e)).1 = a + l.length
  | [], _, _ => rfl
  | p :: r, a, e => by simp only [List.foldl_cons, List.length_cons]; rw [endOf_fold r]; omega
theorem endOf_snoc (l : List Plc) (p : Plc) : endOf (l ++ [p]) = if p.safe.isSome then l.length + 1 else endOf l := by
  unfold endOf
  rw [List.foldl_append]
  simp only [List.foldl_cons, List.foldl_nil]
  rw [endOf_fold l 0 0, Nat.zero_add]
theorem endOf_fold2 : ∀ (l : List Plc) (a e : Nat), e ≤ a → (l.foldl (fun (s : Nat × Nat) p => (s.1 + 1, if p.safe.isSome then s.1 + 1 else s.2)) (a, e)).2 ≤ a + l.length
  | [], _, _, h => h
  | p :: r, a, e, h => by
    simp only [List.foldl_cons, List.length_cons]
    have hx : (if p.safe.isSome then a + 1 else e) ≤ a + 1 := by split <;> omega
    have := endOf_fold2 r (a + 1) (if p.safe.isSome then a + 1 else e) hx
    omega
theorem endOf_le (l : List Plc) : endOf l ≤ l.length := by have := endOf_fold2 l 0 0 (Nat.le_refl _); rw [Nat.zero_add] at this; exact this

/-! ### names -/
def get? {α : Type} (L : List (Nam × α)) (n : Nam) : Option α := (L.find? fun e => e.1 == n).map (·.2)
def insB {α : Type} (x : Nam × α) : List (Nam × α) → List (Nam × α)
  | [] => [x]
  | y :: r => if bytesBefore x.1 y.1 then x :: y :: r else y :: insB x r
def del {α : Type} (L : List (Nam × α)) (n : Nam) : List (Nam × α) := L.filter fun e => !(e.1 == n)
def ins {α : Type} (L : List (Nam × α)) (n : Nam) (a : α) : List (Nam × α) := insB (n, a) (del L n)

end Disk
end Go.Proofs.Ytiomojidfkpagaa
