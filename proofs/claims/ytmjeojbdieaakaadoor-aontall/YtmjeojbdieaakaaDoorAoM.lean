/-
  Plain mathematics of layer 11: the classes, a slice's size, the inside, the package. Nothing of the program here.
-/
import Derived.Test.YtmjeojbdieaakaaDoorCtrMath
import Derived.Test.YtmjeojbdieaakaaDoorPb
namespace Go.Proofs.YtmjeojbdieaakaaDoor
set_option linter.unusedVariables false

/-- The class of a secret's length. -/
def clsN (n : Nat) : Nat := if n ≤ 30 then 32 else if n ≤ 62 then 64 else if n ≤ 126 then 128 else if n ≤ 254 then 256 else if n ≤ 510 then 512 else 1024
def isCls (c : Int) : Bool := decide (c = 32) || decide (c = 64) || decide (c = 128) || decide (c = 256) || decide (c = 512) || decide (c = 1024)
theorem isCls_cases {c : Int} (h : isCls c = true) : c = 32 ∨ c = 64 ∨ c = 128 ∨ c = 256 ∨ c = 512 ∨ c = 1024 := by
  unfold isCls at h
  simp only [Bool.or_eq_true, decide_eq_true_eq] at h
  omega
theorem clsN_cases (n : Nat) : clsN n = 32 ∨ clsN n = 64 ∨ clsN n = 128 ∨ clsN n = 256 ∨ clsN n = 512 ∨ clsN n = 1024 := by
  unfold clsN
  repeat' split
  all_goals simp
theorem clsN_ge {n : Nat} (h : n ≤ 1000) : n + 2 ≤ clsN n := by
  unfold clsN
  repeat' split
  all_goals omega
theorem clsN_le (n : Nat) : clsN n ≤ 1024 := by
  unfold clsN
  repeat' split
  all_goals omega
theorem clsN_isCls (n : Nat) : isCls (clsN n : Nat) = true := by
  rcases clsN_cases n with h | h | h | h | h | h <;> rw [h] <;> rfl
/-- How many bytes a slice has. -/
def sizN (c k : Nat) : Nat := (c + 48 + (k - 1)) / k
theorem sizN_mul {c k : Nat} (h : 1 ≤ k) : c + 48 ≤ k * sizN c k ∧ k * sizN c k < c + 48 + k := by
  unfold sizN
  have h1 := Nat.div_add_mod (c + 48 + (k - 1)) k
  have h2 := Nat.mod_lt (c + 48 + (k - 1)) (show k > 0 by omega)
  generalize k * ((c + 48 + (k - 1)) / k) = q at *
  omega
/-- The least number from m on that k divides. -/
theorem least_mult {k m j : Nat} (hk : 1 ≤ k) (h1 : m ≤ j) (h2 : ∀ i, m ≤ i → i < j → i % k ≠ 0) (h3 : j % k = 0) : j = k * ((m + (k - 1)) / k) := by
  have a1 := Nat.div_add_mod (m + (k - 1)) k
  have a2 := Nat.mod_lt (m + (k - 1)) (show k > 0 by omega)
  obtain ⟨q, hq⟩ : ∃ q, j = k * q := ⟨j / k, by have := Nat.div_add_mod j k; omega⟩
  generalize hr : (m + (k - 1)) / k = r at *
  by_cases hlt : q < r
  · have : k * (q + 1) ≤ k * r := Nat.mul_le_mul_left k (by omega)
    rw [Nat.mul_add] at this
    omega
  · by_cases hgt : r < q
    · have h4 : k * (r + 1) ≤ k * q := Nat.mul_le_mul_left k (by omega)
      rw [Nat.mul_add] at h4
      exact absurd (Nat.mul_mod_right k r) (h2 (k * r) (by omega) (by omega))
    · have : q = r := by omega
      subst this
      exact hq

/-- The inside of a secret. -/
@[irreducible] def insL (s : List UInt8) : List UInt8 := be 2 s.length ++ s ++ List.replicate (clsN s.length + 14 - s.length) 0
theorem insL_length {s : List UInt8} (h : s.length ≤ 1000) : (insL s).length = clsN s.length + 16 := by
  have := clsN_ge h
  unfold insL
  rw [List.length_append, List.length_append, List.length_replicate, be_length]
  omega
def nil16 : List UInt8 := List.replicate 16 0
/-- Its hidden part. -/
@[irreducible] def hidL (key s : List UInt8) : List UInt8 := hide (aesWords key) nil16 (insL s)
theorem hidL_length {key s : List UInt8} (h : s.length ≤ 1000) : (hidL key s).length = clsN s.length + 16 := by unfold hidL; rw [hide_length, insL_length h]
/-- Two keys, byte by byte. -/
def xorL (a b : List UInt8) : List UInt8 := List.zipWith (· ^^^ ·) a b
/-- The package, filled up for k slices. -/
@[irreducible] def pkgL (k : Nat) (key s : List UInt8) : List UInt8 :=
  hidL key s ++ xorL (shaSum (hidL key s)) key ++ List.replicate (k * sizN (clsN s.length) k - (clsN s.length + 48)) 0
theorem pkgL_length {k : Nat} {key s : List UInt8} (hk : 1 ≤ k) (hl : key.length = 32) (h : s.length ≤ 1000) : (pkgL k key s).length = k * sizN (clsN s.length) k := by
  have := sizN_mul (c := clsN s.length) hk
  unfold pkgL xorL
  rw [List.length_append, List.length_append, List.length_zipWith, List.length_replicate, hidL_length h, shaSum_length, hl]
  omega
/-- A text cut in k texts of n bytes. -/
def cutL (k n : Nat) (l : List UInt8) : List (List UInt8) := (List.range k).map fun i => (l.drop (i * n)).take n
theorem cutL_length (k n : Nat) (l : List UInt8) : (cutL k n l).length = k := by simp [cutL]
theorem cutL_get {k n i : Nat} (l : List UInt8) (h : i < k) : (cutL k n l)[i]? = some ((l.drop (i * n)).take n) := by simp [cutL, h]
theorem cutL_flat (k n : Nat) (l : List UInt8) (h : l.length = k * n) : (cutL k n l).flatten = l := by
  have key : ∀ m, m ≤ k → (cutL m n l).flatten = l.take (m * n) := by
    intro m
    induction m with
    | zero => intro _; simp [cutL]
    | succ m ih =>
      intro hm
      have h1 : cutL (m + 1) n l = cutL m n l ++ [(l.drop (m * n)).take n] := by simp [cutL, List.range_succ]
      have h2 : m * n + n ≤ k * n := by rw [← Nat.succ_mul]; exact Nat.mul_le_mul_right n hm
      rw [h1, List.flatten_append, ih (by omega), Nat.succ_mul, List.take_add]
      simp
  rw [key k (Nat.le_refl _), List.take_of_length_le (by omega)]
end Go.Proofs.YtmjeojbdieaakaaDoor
