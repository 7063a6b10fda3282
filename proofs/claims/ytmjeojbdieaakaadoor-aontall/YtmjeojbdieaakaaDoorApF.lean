/-
  Plain mathematics of layer 11: one byte of one slice, changed. Nothing of the program here.
-/
import Derived.Test.YtmjeojbdieaakaaDoorAo9
namespace Go.Proofs.YtmjeojbdieaakaaDoor
set_option linter.unusedVariables false

theorem flatten_set {S : Nat} : ∀ (ls : List (List UInt8)) (q j : Nat) (l : List UInt8) (v : UInt8), (∀ p, p ∈ ls → p.length = S) → ls[q]? = some l → j < S → (ls.set q (l.set j v)).flatten = ls.flatten.set (q * S + j) v
  | [], q, j, l, v, _, h, _ => by simp at h
  | x :: r, 0, j, l, v, hl, h, hj => by
    obtain rfl : x = l := by simpa using h
    have hx := hl x (by simp)
    rw [List.set_cons_zero, List.flatten_cons, List.flatten_cons, Nat.zero_mul, Nat.zero_add, List.set_append_left _ _ (by omega)]
  | x :: r, q + 1, j, l, v, hl, h, hj => by
    have hx := hl x (by simp)
    have ih := flatten_set r q j l v (fun p hp => hl p (by simp [hp])) (by simpa using h) hj
    rw [List.set_cons_succ, List.flatten_cons, List.flatten_cons, ih, Nat.succ_mul, List.set_append_right _ _ (by omega)]
    congr 2
    omega
theorem lens_set {S : Nat} {ls : List (List UInt8)} {q j : Nat} {l : List UInt8} {v : UInt8} (hl : ∀ p, p ∈ ls → p.length = S) (h : ls[q]? = some l) : ∀ p, p ∈ ls.set q (l.set j v) → p.length = S := by
  intro p hp
  rcases List.mem_or_eq_of_mem_set hp with h1 | h1
  · exact hl p h1
  · rw [h1, List.length_set]
    exact hl l (List.mem_of_getElem? h)
/-- The slices, one byte of their hidden part changed: their error, their text, the key that they tell. -/
theorem changed_facts {C q j i : Nat} {ls : List (List UInt8)} {l : List UInt8} {v : UInt8} {key : List UInt8} (hE : joinE (C : Int) ls = 0) (hk : aKeyV (C : Int) ls = key) (h : ls[q]? = some l) (hj : j < sizN C ls.length) (hi : i < C + 16) (he : q * sizN C ls.length + j = i) :
    joinE (C : Int) (ls.set q (l.set j v)) = 0 ∧ joinV (C : Int) (ls.set q (l.set j v)) = ls.flatten.set i v ∧
      aKeyV (C : Int) (ls.set q (l.set j v)) = xorL (shaSum ((ls.flatten.set i v).take (C + 16))) (xorL (shaSum (ls.flatten.take (C + 16))) key) := by
  obtain ⟨h1, h2, h3, h4⟩ := joinE_yes hE
  obtain ⟨_, _, _, _, _, _, _, h6, _⟩ := join_facts hE
  rw [Int.toNat_natCast] at h4
  have e1 : joinE (C : Int) (ls.set q (l.set j v)) = 0 := joinE_ok ⟨h1, by rw [List.length_set]; exact h2, by rw [List.length_set]; exact h3⟩ (by rw [List.length_set, Int.toNat_natCast]; exact lens_set h4 h)
  have e2 := flatten_set ls q j l v h4 h hj
  rw [he] at e2
  have hk2 : keyL C ls.flatten = key := by
    rw [← hk]
    unfold aKeyV
    rw [if_pos hE, Int.toNat_natCast]
  have h7 : C + 48 ≤ ls.flatten.length := by
    obtain ⟨C', g1, _, _, _, _, _, g6, _⟩ := join_facts hE
    omega
  refine ⟨e1, by rw [joinV_ok e1, e2], ?_⟩
  unfold aKeyV
  rw [if_pos e1, Int.toNat_natCast, e2, key_turned h7 hi, hk2]
end Go.Proofs.YtmjeojbdieaakaaDoor
