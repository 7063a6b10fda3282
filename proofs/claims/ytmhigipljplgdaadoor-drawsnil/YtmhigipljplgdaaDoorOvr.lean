/-
  Plain mathematics: one list that overwrites another from its head on. Nothing of the program here.
-/
import Derived.Test.YtmhigipljplgdaaDoorBinMath
namespace Go.Proofs.YtmhigipljplgdaaDoor
set_option linter.unusedVariables false

/-! ### overwriting, from the head on -/
/-- The first n of one list, the rest of another. -/
def ovr {α : Type} (A B : List α) (n : Nat) : List α := A.take n ++ B.drop n
section
variable {α : Type} {A B : List α} {n j : Nat}
theorem ovr_zero (A B : List α) : ovr A B 0 = B := by simp [ovr]
theorem ovr_all (h : A.length = B.length) (hn : B.length ≤ n) : ovr A B n = A := by
  unfold ovr; rw [List.drop_of_length_le hn, List.append_nil, List.take_of_length_le (by omega)]
theorem ovr_length (h : A.length = B.length) : (ovr A B n).length = B.length := by simp [ovr]; omega
theorem ovr_lt (hj : j < n) (h : j < A.length) : (ovr A B n)[j]? = A[j]? := by
  unfold ovr
  rw [List.getElem?_append_left (by rw [List.length_take]; omega), List.getElem?_take, if_pos hj]
theorem ovr_ge (h : A.length = B.length) (hj : n ≤ j) (hn : n ≤ B.length) : (ovr A B n)[j]? = B[j]? := by
  unfold ovr
  rw [List.getElem?_append_right (by rw [List.length_take]; omega), List.length_take, List.getElem?_drop]
  congr 1; omega
theorem ovr_set (h : A.length = B.length) (hn : n < B.length) {v : α} (hv : A[n]? = some v) : (ovr A B n).set n v = ovr A B (n + 1) := by
  unfold ovr
  have e1 : (A.take n).length = n := by rw [List.length_take]; omega
  rw [List.set_append_right _ _ (by omega), e1, Nat.sub_self, List.drop_eq_getElem_cons hn, List.set_cons_zero, take_step A n v hv, List.append_assoc]
  rfl
end
end Go.Proofs.YtmhigipljplgdaaDoor
