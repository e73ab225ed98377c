/-
  Plain mathematics of layer 5 (head): the bytes of a fit head, what bytes say, there and back. No program in sight.
-/
import Derived.Test.YtpfolialjajafaaNumPart
namespace Go.Proofs.Ytpfolialjajafaa
namespace Head
open Num (fixF unfF hid)
open Part (numAt mid fx fx_size fx_list zerosS zerosS_size zerosL piece part_back cut_take)

def markS : ByteArray := ⟨#[99, 97, 104, 105, 101, 114, 48, 49]⟩
/-- The fields' bytes behind the mark; the whole page. Names that a walk leaves closed. -/
def fieldsS (M P T S R C : Nat) : ByteArray := markS ++ fx 4 M ++ fx 4 P ++ fx 4 T ++ fx 4 S ++ fx 4 R ++ fx 8 C
def headS (M P T S R C : Nat) : ByteArray := fieldsS M P T S R C ++ zerosS 196
/-- Whether a head can be a database's. -/
def Fit (M P T S R : Int) : Prop := (M = 1 ∨ M = 2) ∧ 1 ≤ P ∧ P ≤ 4096 ∧ (0 ≤ T ∧ T < P) ∧ (0 ≤ S ∧ S < P) ∧ (0 ≤ R ∧ R < P) ∧ (S = 0 ↔ T = 0)
instance (M P T S R : Int) : Decidable (Fit M P T S R) := by unfold Fit; infer_instance

theorem fields_size (M P T S R C : Nat) : (fieldsS M P T S R C).size = 36 := by
  unfold fieldsS; simp only [ByteArray.size_append, fx_size]; rfl
theorem head_size (M P T S R C : Nat) : (headS M P T S R C).size = 232 := by
  unfold headS; rw [ByteArray.size_append, fields_size, zerosS_size]

theorem head_list (M P T S R C : Nat) : (headS M P T S R C).data.toList = markS.data.toList ++ (fixF 4 M ++ (fixF 4 P ++ (fixF 4 T ++ (fixF 4 S ++ (fixF 4 R ++ (fixF 8 C ++ zerosL 196)))))) := by
  unfold headS fieldsS
  simp [fx, zerosS]

theorem at_M (M P T S R C : Nat) (h : M < 4294967296) : piece (headS M P T S R C) 8 12 = M := by
  unfold piece numAt
  show unfF 0 ((((headS M P T S R C).data.toList).drop 8).take 4) = M
  rw [head_list, mid _ _ _ 8 4 rfl (Num.fixF_length 4 M), Num.unf_fix]
  exact Nat.mod_eq_of_lt h
theorem at_P (M P T S R C : Nat) (h : P < 4294967296) : piece (headS M P T S R C) 12 16 = P := by
  unfold piece numAt
  show unfF 0 ((((headS M P T S R C).data.toList).drop 12).take 4) = P
  rw [head_list, ← List.append_assoc, mid _ _ _ 12 4 (by simp [Num.fixF_length]; rfl) (Num.fixF_length 4 P), Num.unf_fix]
  exact Nat.mod_eq_of_lt h
theorem at_T (M P T S R C : Nat) (h : T < 4294967296) : piece (headS M P T S R C) 16 20 = T := by
  unfold piece numAt
  show unfF 0 ((((headS M P T S R C).data.toList).drop 16).take 4) = T
  rw [head_list, ← List.append_assoc, ← List.append_assoc, mid _ _ _ 16 4 (by simp [Num.fixF_length]; rfl) (Num.fixF_length 4 T), Num.unf_fix]
  exact Nat.mod_eq_of_lt h
theorem at_S (M P T S R C : Nat) (h : S < 4294967296) : piece (headS M P T S R C) 20 24 = S := by
  unfold piece numAt
  show unfF 0 ((((headS M P T S R C).data.toList).drop 20).take 4) = S
  rw [head_list, ← List.append_assoc, ← List.append_assoc, ← List.append_assoc, mid _ _ _ 20 4 (by simp [Num.fixF_length]; rfl) (Num.fixF_length 4 S), Num.unf_fix]
  exact Nat.mod_eq_of_lt h
theorem at_R (M P T S R C : Nat) (h : R < 4294967296) : piece (headS M P T S R C) 24 28 = R := by
  unfold piece numAt
  show unfF 0 ((((headS M P T S R C).data.toList).drop 24).take 4) = R
  rw [head_list, ← List.append_assoc, ← List.append_assoc, ← List.append_assoc, ← List.append_assoc, mid _ _ _ 24 4 (by simp [Num.fixF_length]; rfl) (Num.fixF_length 4 R), Num.unf_fix]
  exact Nat.mod_eq_of_lt h
theorem at_C (M P T S R C : Nat) (h : C < 18446744073709551616) : piece (headS M P T S R C) 28 36 = C := by
  unfold piece numAt
  show unfF 0 ((((headS M P T S R C).data.toList).drop 28).take 8) = C
  rw [head_list, ← List.append_assoc, ← List.append_assoc, ← List.append_assoc, ← List.append_assoc, ← List.append_assoc, mid _ _ _ 28 8 (by simp [Num.fixF_length]; rfl) (Num.fixF_length 8 C), Num.unf_fix]
  exact Nat.mod_eq_of_lt h

/-- What the bytes of a page say, as they stand. -/
def again (s : ByteArray) : ByteArray := headS (piece s 8 12) (piece s 12 16) (piece s 16 20) (piece s 20 24) (piece s 24 28) (piece s 28 36)
def FitS (s : ByteArray) : Prop := Fit (piece s 8 12 : Nat) (piece s 12 16 : Nat) (piece s 16 20 : Nat) (piece s 20 24 : Nat) (piece s 24 28 : Nat)
instance (s : ByteArray) : Decidable (FitS s) := by unfold FitS; infer_instance
/-- Whether bytes are those of a fit head. -/
def Right (s : ByteArray) : Prop := FitS s ∧ again s = s
instance (s : ByteArray) : Decidable (Right s) := by unfold Right; infer_instance

theorem fit_small {M P T S R : Nat} (h : Fit M P T S R) : M < 4294967296 ∧ P < 4294967296 ∧ T < 4294967296 ∧ S < 4294967296 ∧ R < 4294967296 := by
  unfold Fit at h; omega

theorem right_head {M P T S R C : Nat} (h : Fit M P T S R) (hC : C < 18446744073709551616) : Right (headS M P T S R C) := by
  obtain ⟨h1, h2, h3, h4, h5⟩ := fit_small h
  unfold Right FitS again
  rw [at_M _ _ _ _ _ _ h1, at_P _ _ _ _ _ _ h2, at_T _ _ _ _ _ _ h3, at_S _ _ _ _ _ _ h4, at_R _ _ _ _ _ _ h5, at_C _ _ _ _ _ _ hC]
  exact ⟨h, rfl⟩

theorem head_inj {M P T S R C M' P' T' S' R' C' : Nat} (h : Fit M P T S R) (hC : C < 18446744073709551616) (h' : Fit M' P' T' S' R') (hC' : C' < 18446744073709551616) (e : headS M P T S R C = headS M' P' T' S' R' C') :
    M = M' ∧ P = P' ∧ T = T' ∧ S = S' ∧ R = R' ∧ C = C' := by
  obtain ⟨h1, h2, h3, h4, h5⟩ := fit_small h
  obtain ⟨g1, g2, g3, g4, g5⟩ := fit_small h'
  refine ⟨?_, ?_, ?_, ?_, ?_, ?_⟩
  · rw [← at_M M P T S R C h1, e, at_M _ _ _ _ _ _ g1]
  · rw [← at_P M P T S R C h2, e, at_P _ _ _ _ _ _ g2]
  · rw [← at_T M P T S R C h3, e, at_T _ _ _ _ _ _ g3]
  · rw [← at_S M P T S R C h4, e, at_S _ _ _ _ _ _ g4]
  · rw [← at_R M P T S R C h5, e, at_R _ _ _ _ _ _ g5]
  · rw [← at_C M P T S R C hC, e, at_C _ _ _ _ _ _ hC']

end Head
end Go.Proofs.Ytpfolialjajafaa
