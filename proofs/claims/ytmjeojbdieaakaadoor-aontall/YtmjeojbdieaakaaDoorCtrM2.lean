/-
  Plain mathematics of layer 6, going on: a number of sixteen bytes counted by what is left of the other one with the carry in it; what is hidden, block by block. Nothing of the program here.
-/
import Derived.Test.YtmjeojbdieaakaaDoorCtrMath
namespace Go.Proofs.YtmjeojbdieaakaaDoor
set_option linter.unusedVariables false

theorem cnt_prog {l : List UInt8} (h : l.length = 16) (n : Nat) {k : Nat} (hk : k < 16) {b : UInt8} (hb : l[15 - k]? = some b) (m : Nat) (hm : m = n / 256 ^ k + cntC l n k) :
    (cntP l n k).set (15 - k) (UInt8.ofNat (b.toNat + m % 256)) = cntP l n (k + 1) ∧ m / 256 + (b.toNat + m % 256) / 256 = n / 256 ^ (k + 1) + cntC l n (k + 1) := by
  have h1 := cntP_step h n hk hb
  have h2 := (cnt_sum h n hk hb).2
  rw [h2, Nat.pow_succ, ← Nat.div_div_eq_div_mul, ← h1]
  generalize n / 256 ^ k = x at *
  generalize cntC l n k = c at *
  constructor
  · congr 1
    apply UInt8.toNat_inj.1
    rw [ofNat_toNat, ofNat_toNat]
    omega
  · omega
theorem ksAt_in (w from_ : List UInt8) (j i : Nat) (h : i < 16) : ksAt w from_ (16 * j + i) = (aesBlock w (cnt from_ j)).getD i 0 := by
  rw [ksAt_eq, Nat.mul_add_div (by omega), Nat.mul_add_mod, Nat.div_eq_of_lt h, Nat.mod_eq_of_lt h, Nat.add_zero]
theorem cntC_le {l : List UInt8} (h : l.length = 16) (n : Nat) {k : Nat} (hk : k ≤ 16) : cntC l n k ≤ 1 := by
  have hp : 0 < 256 ^ k := Nat.pow_pos (by omega)
  have h1 := num_lt (l.drop (16 - k))
  have hdl : (l.drop (16 - k)).length = k := by rw [List.length_drop]; omega
  rw [hdl] at h1
  have h2 := Nat.mod_lt n hp
  unfold cntC
  have : num (l.drop (16 - k)) + n % 256 ^ k < 2 * 256 ^ k := by omega
  have := (Nat.div_lt_iff_lt_mul hp).2 this
  omega
end Go.Proofs.YtmjeojbdieaakaaDoor
