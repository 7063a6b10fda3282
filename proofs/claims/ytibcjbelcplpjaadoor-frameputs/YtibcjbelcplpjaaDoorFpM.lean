/-
  Plain mathematics of layer 13, going on: a frame's numbers one by one. Nothing of the program here.
-/
import Derived.Test.YtibcjbelcplpjaaDoorPd
namespace Go.Proofs.YtibcjbelcplpjaaDoor
set_option linter.unusedVariables false

@[irreducible] def numS (j : Nat) : Nat := if j = 3 then 2 else 1
@[irreducible] def numZ (f : Fr) (j : Nat) : Int := if j = 0 then f.idx else if j = 1 then f.cnt else if j = 2 then f.kk else f.cls
def numB (f : Fr) : Nat → List UInt8
  | 0 => []
  | j + 1 => numB f j ++ be (numS j) (numZ f j).toNat
theorem numS_le (j : Nat) : 1 ≤ numS j ∧ numS j ≤ 2 := by unfold numS; split <;> omega
theorem numB_zero (f : Fr) : numB f 0 = [] := rfl
theorem numB_succ (f : Fr) (j : Nat) : numB f (j + 1) = numB f j ++ be (numS j) (numZ f j).toNat := rfl
theorem numB_len (f : Fr) (j : Nat) : (numB f j).length ≤ 2 * j := by
  induction j with
  | zero => rw [numB_zero]; simp
  | succ j ih => rw [numB_succ, List.length_append, be_length]; have := numS_le j; omega
theorem numZ_fits {f : Fr} (h : frRight f = true) (j : Nat) (hj : j < 4) : 0 ≤ numZ f j ∧ numZ f j ≤ 1024 ∧ (numZ f j).toNat < 256 ^ numS j := by
  obtain ⟨⟨a1, a2, a3, a4, a5, a6⟩, a7, a8, a9⟩ := frRight_facts h
  unfold numZ numS
  by_cases h0 : j = 0
  · subst h0; simp; omega
  by_cases h1 : j = 1
  · subst h1; simp; omega
  by_cases h2 : j = 2
  · subst h2; simp; omega
  obtain rfl : j = 3 := by omega
  simp
  omega
theorem be1 (x : Nat) : be 1 x = [UInt8.ofNat x] := by simp [be]
theorem be1_byte (x : UInt8) : be 1 x.toNat = [x] := by rw [be1]; simp
theorem frPlain_steps (f : Fr) : frPlain f = (be 1 241 ++ f.obj) ++ numB f 4 ++ (sm f.piece.length ++ f.piece) := by
  have h : numB f 4 = [UInt8.ofNat f.idx.toNat, UInt8.ofNat f.cnt.toNat, UInt8.ofNat f.kk.toNat] ++ be 2 f.cls.toNat := by
    rw [numB_succ, numB_succ, numB_succ, numB_succ, numB_zero]
    simp [numS, numZ, be1]
  rw [h, be1]
  unfold frPlain
  simp
end Go.Proofs.YtibcjbelcplpjaaDoor
