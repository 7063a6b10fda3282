/-
  A frame that is taken part by part: its cells. No statement of the seed is proved here.
-/
import Derived.Test.YtibcjbelcplpjaaDoorPd
import Derived.Test.YtibcjbelcplpjaaDoorFpM
namespace Go.Proofs.YtibcjbelcplpjaaDoor
open Go.RowKit
set_option linter.unusedVariables false

/-- The object, as far as it has been taken. -/
@[irreducible] def frO (p : List UInt8) (k : Nat) : Fr := ⟨(p.drop 1).take k ++ List.replicate (16 - k) 0, 0, 0, 0, 0, []⟩
/-- The numbers, as far as they have been taken. -/
@[irreducible] def frN (p : List UInt8) (j : Nat) : Fr := ⟨(p.drop 1).take 16, if 1 ≤ j then numZ (frTold p []) 0 else 0, if 2 ≤ j then numZ (frTold p []) 1 else 0, if 3 ≤ j then numZ (frTold p []) 2 else 0, if 4 ≤ j then numZ (frTold p []) 3 else 0, []⟩
/-- Where they stand. -/
@[irreducible] def posN (j : Nat) : Nat := if j = 4 then 22 else 17 + j
theorem posN_zero : posN 0 = 17 := by unfold posN; rfl
theorem posN_four : posN 4 = 22 := by unfold posN; rfl
theorem posN_succ {j : Nat} (h : j < 4) : posN j + numS j = posN (j + 1) := by rcases (by omega : j = 0 ∨ j = 1 ∨ j = 2 ∨ j = 3) with rfl | rfl | rfl | rfl <;> simp [posN, numS]
theorem posN_le {j : Nat} (h : j ≤ 4) : 17 ≤ posN j ∧ posN j ≤ 22 := by unfold posN; split <;> omega
theorem frO_zero (p : List UInt8) : frO p 0 = fr0 := by unfold frO fr0; simp
theorem frO_all {p : List UInt8} (h : 17 ≤ p.length) : frO p 16 = frN p 0 := by unfold frO frN; simp
theorem frN_all (p : List UInt8) : frN p 4 = frTold p [] := by unfold frN numZ frTold; rfl
theorem frO_obj {p : List UInt8} {k : Nat} (hk : k ≤ 16) (h : 1 + k ≤ p.length) : (frO p k).obj.length = 16 := by unfold frO; simp; omega
theorem frN_obj {p : List UInt8} {j : Nat} (h : 17 ≤ p.length) : (frN p j).obj.length = 16 := by unfold frN; simp; omega
theorem told_obj {p t : List UInt8} (h : 17 ≤ p.length) : (frTold p t).obj.length = 16 := by unfold frTold; simp; omega
theorem num_one {l : List UInt8} {k : Nat} {b : UInt8} (h : l[k]? = some b) : num ((l.drop k).take 1) = b.toNat := by
  have hk := (List.getElem?_eq_some_iff.1 h).1
  have e : (l.drop k).take 1 = [b] := by
    rw [List.drop_eq_getElem_cons hk]
    have := (List.getElem?_eq_some_iff.1 h).2
    rw [this]
    rfl
  rw [e]
  simp [num]
theorem numZ_told {p : List UInt8} {j : Nat} (hj : j < 4) (h : posN j + numS j ≤ p.length) : numZ (frTold p []) j = (num ((p.drop (posN j)).take (numS j)) : Nat) := by
  have e : ∀ k, k < p.length → (num ((p.drop k).take 1) : Nat) = (((p[k]?).getD 0).toNat : Nat) := fun k hk => by
    rw [num_one (List.getElem?_eq_getElem hk), List.getElem?_eq_getElem hk]
    rfl
  unfold posN numS at h
  rcases (by omega : j = 0 ∨ j = 1 ∨ j = 2 ∨ j = 3) with rfl | rfl | rfl | rfl
  · unfold numZ frTold posN numS; simp only [if_true]; rw [if_neg (by omega), if_neg (by omega), e _ (by simp at h; omega)]
  · unfold numZ frTold posN numS; simp; rw [e _ (by simp at h; omega)]
  · unfold numZ frTold posN numS; simp; rw [e _ (by simp at h; omega)]
  · unfold numZ frTold posN numS; simp
theorem frO_set {p : List UInt8} {k : Nat} {b : UInt8} (hk : k < 16) (h : p[1 + k]? = some b) : (frc (frO p k) none 0 0).set k (.int .u8 (b.toNat : Int)) = frc (frO p (k + 1)) none 0 0 := by
  have hl := (List.getElem?_eq_some_iff.1 h).1
  have h1 : ((p.drop 1).take k).length = k := by simp; omega
  have h2 : (p.drop 1)[k]? = some b := by rw [List.getElem?_drop]; exact h
  have h3 : (p.drop 1).take (k + 1) = (p.drop 1).take k ++ [b] := take_step _ _ _ h2
  have h4 : List.replicate (16 - k) (0 : UInt8) = 0 :: List.replicate (16 - (k + 1)) 0 := by
    rw [show 16 - k = (16 - (k + 1)) + 1 by omega, List.replicate_succ]
  unfold frc frO
  simp only
  rw [h3, h4]
  generalize (p.drop 1).take k = q at h1
  subst h1
  unfold bvs
  rw [List.map_append, List.map_cons, List.append_assoc, List.set_append_right _ _ (by simp), List.map_append, List.map_append]
  simp [bcell]
theorem frN_set {p : List UInt8} {j : Nat} (hj : j < 4) (h : 17 ≤ p.length) : (frc (frN p j) none 0 0).set (16 + j) (.int .i64 (numZ (frTold p []) j)) = frc (frN p (j + 1)) none 0 0 := by
  have h1 : ((p.drop 1).take 16).length = 16 := by simp; omega
  unfold frc frN
  simp only
  generalize (p.drop 1).take 16 = q at h1
  rw [List.set_append_right _ _ (by rw [bvs_length]; omega), bvs_length, h1]
  rcases (by omega : j = 0 ∨ j = 1 ∨ j = 2 ∨ j = 3) with rfl | rfl | rfl | rfl <;> simp
theorem told_set {p t : List UInt8} {A : Option Addr} {n c : Nat} (h : 17 ≤ p.length) : (frc (frTold p []) none 0 0).set 20 (.slice A n c) = frc (frTold p t) A n c := by
  have h1 : ((p.drop 1).take 16).length = 16 := by simp; omega
  unfold frc frTold
  simp only
  generalize (p.drop 1).take 16 = q at h1
  rw [List.set_append_right _ _ (by rw [bvs_length]; omega), bvs_length, h1]
  simp
theorem told_at {w : World} {p t : List UInt8} {A : Option Addr} {n c : Nat} (h : 17 ≤ p.length) (hr : RdB w A n c t) : FrAt w (frTold p t) A n c := by
  refine ⟨told_obj h, ?_, ?_, ?_, ?_, by unfold frTold; exact hr⟩
  all_goals unfold I64 frTold; simp only
  · have := ((p[17]?).getD 0).toNat_lt; omega
  · have := ((p[18]?).getD 0).toNat_lt; omega
  · have := ((p[19]?).getD 0).toNat_lt; omega
  · have h2 := num_lt ((p.drop 20).take 2)
    have h3 : ((p.drop 20).take 2).length ≤ 2 := by rw [List.length_take]; omega
    have h4 : 256 ^ ((p.drop 20).take 2).length ≤ 256 ^ 2 := Nat.pow_le_pow_right (by omega) h3
    omega
theorem frPk_short {p : List UInt8} (h : p.length < 22) : frPick p = (fr0, 1) := by unfold frPick; rw [if_pos h]
theorem frPk_text {p t : List UInt8} {d er : Nat} (h : 22 ≤ p.length) (ht : ttext (p.drop 22) 65536 = (t, d, er)) (he : er ≠ 0) : frPick p = (fr0, er) := by
  unfold frPick
  rw [if_neg (by omega), ht]
  simp only
  rw [if_pos he]
theorem frPk_form {p t : List UInt8} {d : Nat} (h : 22 ≤ p.length) (ht : ttext (p.drop 22) 65536 = (t, d, 0)) (he : (p[0]?).getD 0 ≠ 241 ∨ 22 + d < p.length) : frPick p = (fr0, 2) := by
  unfold frPick
  rw [if_neg (by omega), ht]
  simp only
  rw [if_neg (by simp), if_pos he]
theorem frPk_right {p t : List UInt8} {d : Nat} (h : 22 ≤ p.length) (ht : ttext (p.drop 22) 65536 = (t, d, 0)) (h0 : (p[0]?).getD 0 = 241) (hd : 22 + d = p.length) : frPick p = if frRight (frTold p t) = true then (frTold p t, 0) else (fr0, 14) := by
  unfold frPick
  rw [if_neg (by omega), ht]
  simp only
  rw [if_neg (by simp), if_neg (by rw [h0]; simp; omega)]
end Go.Proofs.YtibcjbelcplpjaaDoor
