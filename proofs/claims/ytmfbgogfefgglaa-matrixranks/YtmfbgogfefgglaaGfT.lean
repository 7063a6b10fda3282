/-
  Plain mathematics of layer 7, going on: the tables as one row of bytes. Nothing of the program here.
-/
import Derived.Test.YtmfbgogfefgglaaGfMath
namespace Go.Proofs.Ytmfbgogfefgglaa
set_option linter.unusedVariables false

/-- The tables behind n rounds: the powers, the powers again, the logs. -/
def tabN : Nat → List UInt8
  | 0 => List.replicate 766 0
  | n + 1 => (((tabN n).set n (expTab.getD n 0)).set (n + 255) (expTab.getD n 0)).set (510 + (expTab.getD n 0).toNat) (UInt8.ofNat n)
theorem tabN_length : ∀ n, (tabN n).length = 766
  | 0 => List.length_replicate
  | n + 1 => by unfold tabN; rw [List.length_set, List.length_set, List.length_set, tabN_length n]
@[irreducible] def tabl : List UInt8 := expTab ++ expTab ++ logTab.map UInt8.ofNat
theorem tabl_eq : tabl = expTab ++ expTab ++ logTab.map UInt8.ofNat := by unfold tabl; rfl
set_option maxRecDepth 100000 in
theorem tabN_all : tabN 255 = tabl := by decide +kernel
set_option maxRecDepth 100000 in
theorem expTab_length : expTab.length = 255 := by decide +kernel
set_option maxRecDepth 100000 in
theorem logTab_length : logTab.length = 256 := by decide +kernel
theorem tabl_length : tabl.length = 766 := by rw [← tabN_all, tabN_length]
theorem expTab_getD (n : Nat) (h : n < 255) : expTab.getD n 0 = gexp n := by rw [List.getD_eq_getElem?_getD, expTab_get n h]; rfl
theorem tabl_exp (j : Nat) (h : j < 510) : tabl[j]? = some (gexp j) := by
  rw [tabl_eq, List.getElem?_append_left (by rw [List.length_append, expTab_length]; omega)]
  by_cases h1 : j < 255
  · rw [List.getElem?_append_left (by rw [expTab_length]; omega), expTab_get j h1]
  · rw [List.getElem?_append_right (by rw [expTab_length]; omega), expTab_length, expTab_get _ (by omega), gexp_mod j, show j % 255 = j - 255 by omega]
theorem glog_lt (x : UInt8) (h : x ≠ 0) : glog x < 255 := (gexp_log x h).1
theorem tabl_log (x : UInt8) (h : x ≠ 0) : tabl[510 + x.toNat]? = some (UInt8.ofNat (glog x)) := by
  have hx := x.toNat_lt
  rw [tabl_eq, List.getElem?_append_right (by rw [List.length_append, expTab_length]; omega), List.length_append, expTab_length, show 510 + x.toNat - (255 + 255) = x.toNat by omega, List.getElem?_map, glog, List.getD_eq_getElem?_getD, List.getElem?_eq_getElem (by rw [logTab_length]; omega)]
  rfl
theorem log_nat (x : UInt8) (h : x ≠ 0) : (UInt8.ofNat (glog x)).toNat = glog x := by
  have := glog_lt x h
  simp; omega
/-- Products by their logs. -/
theorem gmul_log (a b : UInt8) (ha : a ≠ 0) (hb : b ≠ 0) : gexp (glog a + glog b) = gmul 0x1d a b := by
  rw [← gexp_add, (gexp_log a ha).2, (gexp_log b hb).2]
theorem gmul_zero_r (a : UInt8) : gmul 0x1d a 0 = 0 := by rw [gmul_comm (.inl rfl), gmul_zero_l]
theorem gmul_one_r (a : UInt8) : gmul 0x1d a 1 = a := by rw [gmul_comm (.inl rfl), gmul_one_l (.inl rfl)]
theorem inv_unique (b x : UInt8) (h : gmul 0x1d b x = 1) : x = ginv 0x1d b := by
  have hb : b ≠ 0 := by rintro rfl; rw [gmul_zero_l] at h; exact absurd h (by decide)
  have h1 := gmul_inv (.inl rfl) b hb
  have h2 : gmul 0x1d (gmul 0x1d b x) (ginv 0x1d b) = x := by rw [gmul_swap, h1, gmul_one_l (.inl rfl)]
  rw [h, gmul_one_l (.inl rfl)] at h2
  exact h2.symm
theorem ginv_log (b : UInt8) (hb : b ≠ 0) : gexp (255 - glog b) = ginv 0x1d b := by
  refine inv_unique b _ ?_
  have hl := glog_lt b hb
  rw [show gmul 0x1d b (gexp (255 - glog b)) = gmul 0x1d (gexp (glog b)) (gexp (255 - glog b)) by rw [(gexp_log b hb).2], gexp_add, show glog b + (255 - glog b) = 255 by omega, gexp_255]
set_option maxRecDepth 100000 in
theorem xt_two_all : ∀ n : Fin 256, gmul 0x1d (UInt8.ofNat n.val) 2 = xt 0x1d (UInt8.ofNat n.val) := by decide +kernel
theorem xt_two (x : UInt8) : gmul 0x1d x 2 = xt 0x1d x := all8 (p := fun x => gmul 0x1d x 2 = xt 0x1d x) xt_two_all x
theorem gexp_xt (n : Nat) : xt 0x1d (gexp n) = gexp (n + 1) := (xt_two _).symm
set_option maxRecDepth 100000 in
theorem dbl7_all : ∀ n : Fin 256, ((2 * n.val) ^^^ (2 * n.val / 256 * 285)) % 256 = (xt 0x1d (UInt8.ofNat n.val)).toNat := by decide +kernel
theorem dbl7 (x : UInt8) : ((2 * x.toNat) ^^^ (2 * x.toNat / 256 * 285)) % 256 = (xt 0x1d x).toNat := by
  have h := dbl7_all ⟨x.toNat, x.toNat_lt⟩
  simpa using h
/-- Which power a whole number tells. -/
def gpow (n : Int) : UInt8 := gexp (n % 255).toNat
theorem gpow_nat (n : Nat) : gpow (n : Int) = gexp n := by
  unfold gpow
  rw [gexp_mod n]
  rfl
end Go.Proofs.Ytmfbgogfefgglaa
