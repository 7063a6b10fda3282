/-
  Plain mathematics of layer 11, going on: what is packed tells the key and the secret. Nothing of the program here.
-/
import Derived.Test.YtmjeojbdieaakaaDoorAo8
namespace Go.Proofs.YtmjeojbdieaakaaDoor
open Go.RowKit
set_option linter.unusedVariables false

theorem xorL_length {a b : List UInt8} (h : a.length = b.length) : (xorL a b).length = b.length := by unfold xorL; rw [List.length_zipWith, h]; omega
theorem xorL_self {a b : List UInt8} (h : a.length = b.length) : xorL a (xorL a b) = b := by
  apply List.ext_getElem
  · rw [xorL_length (by rw [xorL_length h]; exact h), xorL_length h]
  · intro i h1 h2
    simp only [xorL, List.getElem_zipWith]
    rw [← UInt8.xor_assoc, UInt8.xor_self, UInt8.zero_xor]
theorem pkg_take {k : Nat} {key s : List UInt8} (h : s.length ≤ 1000) : (pkgL k key s).take (clsN s.length + 16) = hidL key s := by
  have hl := hidL_length (key := key) h
  unfold pkgL
  rw [List.append_assoc, List.take_append_of_le_length (by omega), List.take_of_length_le (by omega)]
theorem pkg_key {k : Nat} {key s : List UInt8} (h : s.length ≤ 1000) (hk : key.length = 32) : keyL (clsN s.length) (pkgL k key s) = key := by
  have hl := hidL_length (key := key) h
  unfold keyL
  rw [pkg_take h]
  have hd : ((pkgL k key s).drop (clsN s.length + 16)).take 32 = xorL (shaSum (hidL key s)) key := by
    have hx := xorL_length (a := shaSum (hidL key s)) (b := key) (by rw [shaSum_length, hk])
    unfold pkgL
    rw [List.append_assoc, List.drop_append_of_le_length (by omega), List.drop_of_length_le (by omega), List.nil_append, List.take_append_of_le_length (by omega), List.take_of_length_le (by omega)]
  rw [hd, xorL_self (by rw [shaSum_length, hk])]
theorem pkg_in {k : Nat} {key s : List UInt8} (h : s.length ≤ 1000) (hk : key.length = 32) : inL (clsN s.length) (pkgL k key s) = insL s := by
  unfold inL
  rw [pkg_key h hk, pkg_take h]
  unfold hidL
  rw [hide_hide]
theorem be2 (n : Nat) : be 2 n = [UInt8.ofNat (n / 256), UInt8.ofNat n] := by simp [be]
theorem pkg_num {k : Nat} {key s : List UInt8} (h : s.length ≤ 1000) (hk : key.length = 32) : inN (clsN s.length) (pkgL k key s) = s.length := by
  unfold inN
  rw [pkg_in h hk]
  unfold insL
  rw [be2]
  simp
  omega
theorem pkg_sec {k : Nat} {key s : List UInt8} (h : s.length ≤ 1000) (hk : key.length = 32) : secL (clsN s.length) (pkgL k key s) = s := by
  unfold secL
  rw [pkg_num h hk, pkg_in h hk]
  unfold insL
  rw [be2]
  simp
theorem pkg_whole {k : Nat} {key s : List UInt8} (h : s.length ≤ 1000) (hk : key.length = 32) : wholeOk (clsN s.length) k (pkgL k key s) = true := by
  unfold wholeOk
  rw [pkg_num h hk, pkg_sec h hk, pkg_key h hk, decide_eq_true h, decide_eq_true (clsN_ge h), decide_eq_true rfl, beq_self_eq_true]
  rfl
theorem cut_lens {k S : Nat} {l : List UInt8} (h : l.length = k * S) : ∀ p, p ∈ cutL k S l → p.length = S := by
  intro p hp
  unfold cutL at hp
  rw [List.mem_map] at hp
  obtain ⟨i, hi, rfl⟩ := hp
  rw [List.mem_range] at hi
  have h1 : (i + 1) * S ≤ k * S := Nat.mul_le_mul_right S hi
  rw [Nat.succ_mul] at h1
  rw [List.length_take, List.length_drop]
  omega
/-- What is packed can be joined, and tells the key and the secret. -/
theorem pack_back {k : Nat} {key s : List UInt8} (h : s.length ≤ 1000) (hk : key.length = 32) (h1 : 1 ≤ k) (h2 : k ≤ 255) :
    (packL (k : Int) key s).length = k ∧ (packL (k : Int) key s).flatten = pkgL k key s ∧ joinE (clsN s.length : Nat) (packL (k : Int) key s) = 0 ∧ aKeyV (clsN s.length : Nat) (packL (k : Int) key s) = key ∧
      unpE (clsN s.length : Nat) (packL (k : Int) key s) = 0 ∧ unpV (clsN s.length : Nat) (packL (k : Int) key s) = s := by
  have hp : packL (k : Int) key s = cutL k (sizN (clsN s.length) k) (pkgL k key s) := by unfold packL; rw [if_pos ⟨h, by omega, by omega⟩, Int.toNat_natCast]
  have hl := pkgL_length (key := key) h1 hk h
  have hc := cut_lens hl
  have hf := cutL_flat _ _ _ hl
  have hn := cutL_length k (sizN (clsN s.length) k) (pkgL k key s)
  rw [← hp] at hc hf hn
  have hj : joinE (clsN s.length : Nat) (packL (k : Int) key s) = 0 := joinE_ok ⟨clsN_isCls _, by omega, by omega⟩ (fun l h' => by rw [hc l h', Int.toNat_natCast, hn])
  have hw : wholeOk (clsN s.length) (packL (k : Int) key s).length (packL (k : Int) key s).flatten = true := by rw [hn, hf]; exact pkg_whole h hk
  have hu := unp_ok hj hw
  refine ⟨hn, hf, hj, ?_, hu.1, ?_⟩
  · unfold aKeyV
    rw [if_pos hj, Int.toNat_natCast, hf, pkg_key h hk]
  · rw [hu.2, hf, pkg_sec h hk]
/-- With the hidden part turned the key is turned by both digests. -/
theorem key_turned {C : Nat} {all : List UInt8} {i : Nat} {x : UInt8} (h : C + 48 ≤ all.length) (hi : i < C + 16) :
    keyL C (all.set i x) = xorL (shaSum ((all.set i x).take (C + 16))) (xorL (shaSum (all.take (C + 16))) (keyL C all)) := by
  unfold keyL
  rw [xorL_self (by rw [shaSum_length, List.length_take, List.length_drop]; omega), List.drop_set_of_lt (by omega)]
theorem xorL_right {a b c : List UInt8} (h1 : a.length = c.length) (h2 : b.length = c.length) (h : xorL a c = xorL b c) : a = b := by
  apply List.ext_getElem (by omega)
  intro i g1 g2
  have h3 : (xorL a c)[i]? = (xorL b c)[i]? := by rw [h]
  rw [xorL_get (List.getElem?_eq_getElem g1) (List.getElem?_eq_getElem (show i < c.length by omega)), xorL_get (List.getElem?_eq_getElem g2) (List.getElem?_eq_getElem (show i < c.length by omega))] at h3
  injection h3 with h3
  have h4 := congrArg (fun z => z ^^^ c[i]'(by omega)) h3
  simp only [UInt8.xor_assoc, UInt8.xor_self, UInt8.xor_zero] at h4
  exact h4
/-- The turned key is the key just if both digests are alike. -/
theorem turned_same {key was now : List UInt8} (h1 : was.length = key.length) (h2 : now.length = key.length) : xorL now (xorL was key) = key ↔ was = now := by
  constructor
  · intro h
    have h3 : xorL now (xorL now (xorL was key)) = xorL now key := by rw [h]
    rw [xorL_self (by rw [xorL_length h1]; exact h2)] at h3
    exact xorL_right h1 h2 h3
  · rintro rfl
    exact xorL_self h1
theorem turned_at {key was now : List UInt8} {j : Nat} {x y z : UInt8} (h1 : key[j]? = some x) (h2 : was[j]? = some y) (h3 : now[j]? = some z) : (xorL now (xorL was key))[j]? = some (x ^^^ y ^^^ z) := by
  rw [xorL_get h3 (xorL_get h2 h1)]
  congr 1
  rw [UInt8.xor_comm z, UInt8.xor_comm y x]
end Go.Proofs.YtmjeojbdieaakaaDoor
