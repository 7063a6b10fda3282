/-
  Plain mathematics of layer 4: what is expanded of a key. Nothing of the program here.
-/
import Derived.Test.YtckffideobjlfaaDoorHmMath
namespace Go.Proofs.YtckffideobjlfaaDoor
set_option linter.unusedVariables false

/-- The i-th tag. -/
def hkT' (key info : List UInt8) : Nat → List UInt8
  | 0 => []
  | i + 1 => hTag key (hkT' key info i ++ info ++ [UInt8.ofNat (i + 1)])
@[irreducible] def hkT (key info : List UInt8) (i : Nat) : List UInt8 := hkT' key info i
theorem hkT_zero (key info : List UInt8) : hkT key info 0 = [] := by unfold hkT; rfl
theorem hkT_succ (key info : List UInt8) (i : Nat) : hkT key info (i + 1) = hTag key (hkT key info i ++ info ++ [UInt8.ofNat (i + 1)]) := by unfold hkT; rfl
theorem hkT_length (key info : List UInt8) (i : Nat) : (hkT key info (i + 1)).length = 32 := by rw [hkT_succ]; exact hTag_length _ _
theorem hkT_le (key info : List UInt8) (i : Nat) : (hkT key info i).length ≤ 32 := by
  cases i with
  | zero => rw [hkT_zero]; simp
  | succ i => rw [hkT_length]; omega
/-- The first i tags. -/
def hkO' (key info : List UInt8) : Nat → List UInt8
  | 0 => []
  | i + 1 => hkO' key info i ++ hkT key info (i + 1)
@[irreducible] def hkO (key info : List UInt8) (i : Nat) : List UInt8 := hkO' key info i
theorem hkO_zero (key info : List UInt8) : hkO key info 0 = [] := by unfold hkO; rfl
theorem hkO_succ (key info : List UInt8) (i : Nat) : hkO key info (i + 1) = hkO key info i ++ hkT key info (i + 1) := by unfold hkO; rfl
theorem hkO_length (key info : List UInt8) (i : Nat) : (hkO key info i).length = 32 * i := by
  induction i with
  | zero => rw [hkO_zero]; rfl
  | succ i ih => rw [hkO_succ, List.length_append, ih, hkT_length]; omega
theorem hkO_more (key info : List UInt8) (i j : Nat) : ∃ t, hkO key info (i + j) = hkO key info i ++ t := by
  induction j with
  | zero => exact ⟨[], by simp⟩
  | succ j ih => obtain ⟨t, h⟩ := ih; exact ⟨t ++ hkT key info (i + j + 1), by rw [← Nat.add_assoc, hkO_succ, h, List.append_assoc]⟩
/-- n bytes. -/
@[irreducible] def hkE (key info : List UInt8) (n : Nat) : List UInt8 := (hkO key info 255).take n
theorem hkE_eq {key info : List UInt8} {n m : Nat} (h : n ≤ 32 * m) (hm : m ≤ 255) : (hkO key info m).take n = hkE key info n := by
  unfold hkE
  obtain ⟨t, ht⟩ := hkO_more key info m (255 - m)
  rw [show m + (255 - m) = 255 by omega] at ht
  rw [ht, List.take_append_of_le_length (by rw [hkO_length]; omega)]
theorem hkE_length {key info : List UInt8} {n : Nat} (h : n ≤ 8160) : (hkE key info n).length = n := by
  unfold hkE; rw [List.length_take, hkO_length]; omega
theorem hkE_take (key info : List UInt8) {n k : Nat} (h : k ≤ n) : (hkE key info n).take k = hkE key info k := by
  unfold hkE; rw [List.take_take, Nat.min_eq_left h]
/-- n bytes of which the first k tags are there. -/
@[irreducible] def hkP (key info : List UInt8) (n k : Nat) : List UInt8 := (hkO key info k).take n ++ List.replicate (n - 32 * k) 0
theorem hkP_length (key info : List UInt8) (n k : Nat) : (hkP key info n k).length = n := by
  unfold hkP; rw [List.length_append, List.length_take, List.length_replicate, hkO_length]; omega
theorem hkP_zero (key info : List UInt8) (n : Nat) : hkP key info n 0 = List.replicate n 0 := by
  unfold hkP; rw [hkO_zero]; simp
theorem hkP_part {key info : List UInt8} {n k : Nat} (h : 32 * k ≤ n) : hkP key info n k = hkO key info k ++ List.replicate (n - 32 * k) 0 := by
  unfold hkP; rw [List.take_of_length_le (by rw [hkO_length]; exact h)]
theorem hkP_end {key info : List UInt8} {n k : Nat} (h : n ≤ 32 * k) (hk : k ≤ 255) : hkP key info n k = hkE key info n := by
  unfold hkP; rw [hkE_eq h hk, show n - 32 * k = 0 by omega]; simp
theorem hkP_step {key info : List UInt8} {n k m : Nat} (h : 32 * k < n) (hm : m = min 32 (n - 32 * k)) :
    (hkP key info n k).take (32 * k) ++ (hkT key info (k + 1)).take m ++ (hkP key info n k).drop (32 * k + m) = hkP key info n (k + 1) := by
  have hl := hkO_length key info k
  have e1 : (hkP key info n k).take (32 * k) = hkO key info k := by
    rw [hkP_part (by omega), List.take_append_of_le_length (by omega), List.take_of_length_le (by omega)]
  have e2 : (hkP key info n k).drop (32 * k + m) = List.replicate (n - 32 * (k + 1)) 0 := by
    rw [hkP_part (by omega), List.drop_append, List.drop_eq_nil_of_le (by omega), List.nil_append, List.drop_replicate, hl, show n - 32 * k - (32 * k + m - 32 * k) = n - 32 * (k + 1) by omega]
  have e3 : (hkT key info (k + 1)).take m = (hkT key info (k + 1)).take (n - 32 * k) := by
    rw [List.take_eq_take_iff, hkT_length]; omega
  rw [e1, e2, e3]
  unfold hkP
  rw [hkO_succ, List.take_append, List.take_of_length_le (l := hkO key info k) (by omega), hl]
/-- Of an empty salt. -/
theorem hTag_empty (text : List UInt8) : hTag (List.replicate 32 0) text = hTag [] text := by
  have := hTag_noughts (key := []) text 32 (by simp)
  rw [← this, List.nil_append]
/-- The example's tag. -/
def exKey : List UInt8 := [11, 11, 11, 11, 11, 11, 11, 11, 11, 11, 11, 11, 11, 11, 11, 11, 11, 11, 11, 11, 11, 11]
def exSalt : List UInt8 := [0, 1, 2, 3, 4, 5, 6, 7, 8, 9, 10, 11, 12]
def exInfo : List UInt8 := [240, 241, 242, 243, 244, 245, 246, 247, 248, 249]
theorem ex4a : (hTag (hTag exSalt exKey) (exInfo ++ [1])).take 4 = [60, 178, 95, 37] := by
  rw [hTag_eq (hTag _ _), hkey_short (by rw [hTag_length]; omega), hTag_eq, hkey_short (by decide), hx_eq, hx_eq, hx_eq, hx_eq, shaSum_eq, shaSum_eq, shaSum_eq, shaSum_eq]
  decide +kernel
theorem ex4 : (hkE (hTag exSalt exKey) exInfo 42).take 4 = [60, 178, 95, 37] := by
  rw [hkE_take _ _ (by omega), ← hkE_eq (m := 1) (by omega) (by omega), hkO_succ, hkO_zero, hkT_succ, hkT_zero, List.nil_append, List.nil_append]
  exact ex4a
end Go.Proofs.YtckffideobjlfaaDoor
