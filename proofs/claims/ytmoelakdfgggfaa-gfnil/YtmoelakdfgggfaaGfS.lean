/-
  Plain mathematics of layer 7, going on: texts added, multiplied, summed. Nothing of the program here.
-/
import Derived.Test.YtmoelakdfgggfaaGfT
import Derived.Test.YtmoelakdfgggfaaOvr
namespace Go.Proofs.Ytmoelakdfgggfaa
set_option linter.unusedVariables false

/-- A row, and a text times c added to it. -/
def gadd (s : List UInt8) (c : UInt8) (t : List UInt8) : List UInt8 := List.zipWith (fun x y => x ^^^ gmul 0x1d c y) s t
theorem gadd_length (s : List UInt8) (c : UInt8) (t : List UInt8) (h : s.length = t.length) : (gadd s c t).length = s.length := by simp [gadd, h]
theorem gadd_get {s t : List UInt8} {c : UInt8} {k : Nat} {x y : UInt8} (hx : s[k]? = some x) (hy : t[k]? = some y) : (gadd s c t)[k]? = some (x ^^^ gmul 0x1d c y) := by
  simp [gadd, List.getElem?_zipWith, hx, hy]
/-- Each byte times c. -/
def gscale (c : UInt8) (t : List UInt8) : List UInt8 := t.map (gmul 0x1d c)
theorem gscale_length (c : UInt8) (t : List UInt8) : (gscale c t).length = t.length := by simp [gscale]
theorem gadd_zeros (c : UInt8) (t : List UInt8) : gadd (List.replicate t.length 0) c t = gscale c t := by
  unfold gadd gscale
  apply List.ext_getElem?
  intro i
  rw [List.getElem?_zipWith, List.getElem?_replicate, List.getElem?_map]
  by_cases h : i < t.length
  · rw [if_pos h, List.getElem?_eq_getElem h]; simp
  · rw [if_neg h, List.getElem?_eq_none (by omega)]; rfl
/-- The sum of the first k texts, each times its coefficient, of n bytes. -/
def gsumN (n : Nat) (cs : List UInt8) (ls : List (List UInt8)) : Nat → List UInt8
  | 0 => List.replicate n 0
  | k + 1 => gadd (gsumN n cs ls k) (cs.getD k 0) (ls.getD k [])
def gsum (n : Nat) (cs : List UInt8) (ls : List (List UInt8)) : List UInt8 := gsumN n cs ls ls.length
theorem gsumN_length {n : Nat} {cs : List UInt8} {ls : List (List UInt8)} (h : ∀ l ∈ ls, l.length = n) : ∀ k, k ≤ ls.length → (gsumN n cs ls k).length = n
  | 0, _ => List.length_replicate
  | k + 1, hk => by
    have ih := gsumN_length (cs := cs) h k (by omega)
    have hl : (ls.getD k []).length = n := by
      rw [List.getD_eq_getElem?_getD, List.getElem?_eq_getElem (by omega)]
      exact h _ (List.getElem_mem _)
    unfold gsumN
    rw [gadd_length _ _ _ (by rw [ih, hl]), ih]
/-- One place's sum, of the first k texts. -/
def gcol (cs : List UInt8) (ls : List (List UInt8)) (j : Nat) : Nat → UInt8
  | 0 => 0
  | k + 1 => gcol cs ls j k ^^^ gmul 0x1d (cs.getD k 0) ((ls.getD k []).getD j 0)
theorem gsumN_get {n : Nat} {cs : List UInt8} {ls : List (List UInt8)} (h : ∀ l ∈ ls, l.length = n) (j : Nat) (hj : j < n) : ∀ k, k ≤ ls.length → (gsumN n cs ls k)[j]? = some (gcol cs ls j k)
  | 0, _ => by unfold gsumN gcol; rw [List.getElem?_replicate, if_pos hj]
  | k + 1, hk => by
    have ih := gsumN_get (cs := cs) h j hj k (by omega)
    have hl : (ls.getD k []).length = n := by
      rw [List.getD_eq_getElem?_getD, List.getElem?_eq_getElem (by omega)]
      exact h _ (List.getElem_mem _)
    unfold gsumN gcol
    refine gadd_get ih ?_
    generalize ls.getD k [] = l at hl ⊢
    rw [List.getD_eq_getElem?_getD, List.getElem?_eq_getElem (by omega)]; rfl
theorem gsum_take {n : Nat} {cs : List UInt8} {ls : List (List UInt8)} (h : ∀ l ∈ ls, l.length = n) (j : Nat) (hj : j < n) : (gsum n cs ls).take j ++ [gcol cs ls j ls.length] = (gsum n cs ls).take (j + 1) := by
  exact (take_step (gsum n cs ls) j _ (gsumN_get h j hj ls.length (Nat.le_refl _))).symm
theorem gsum_one (c : UInt8) (l : List UInt8) : gsum l.length [c] [l] = gscale c l := by
  show gadd (List.replicate l.length 0) c l = _
  exact gadd_zeros c l
theorem gsum_two (c d : UInt8) (l : List UInt8) : gsum l.length [c, d] [l, l] = gscale (c ^^^ d) l := by
  show gadd (gadd (List.replicate l.length 0) c l) d l = _
  rw [gadd_zeros]
  unfold gadd gscale
  apply List.ext_getElem?
  intro i
  rw [List.getElem?_zipWith, List.getElem?_map, List.getElem?_map]
  by_cases h : i < l.length
  · rw [List.getElem?_eq_getElem h]
    simp [gmul_xor]
  · rw [List.getElem?_eq_none (by omega)]; rfl
theorem gscale_scale (c d : UInt8) (l : List UInt8) : gscale c (gscale d l) = gscale (gmul 0x1d c d) l := by
  unfold gscale
  rw [List.map_map]
  congr 1
  funext x
  exact (gmul_assoc (.inl rfl) c d x).symm
/-- Have all one length? -/
def one1 (ls : List (List UInt8)) : Bool := ls.all (fun l => l.length == (ls.getD 0 []).length)
theorem one1_spec {ls : List (List UInt8)} (h : one1 ls = true) : ∀ l ∈ ls, l.length = (ls.getD 0 []).length := by
  intro l hl
  unfold one1 at h
  rw [List.all_eq_true] at h
  simpa using h l hl
theorem one1_no {ls : List (List UInt8)} {k : Nat} {l : List UInt8} (hl : ls[k]? = some l) (h : l.length ≠ (ls.getD 0 []).length) : one1 ls = false := by
  cases hb : one1 ls with
  | false => rfl
  | true => exact absurd (one1_spec hb l (List.mem_of_getElem? hl)) h
theorem one1_yes {ls : List (List UInt8)} (h : ∀ k l, k < ls.length → ls[k]? = some l → l.length = (ls.getD 0 []).length) : one1 ls = true := by
  unfold one1
  rw [List.all_eq_true]
  intro l hl
  obtain ⟨k, hk⟩ := List.mem_iff_getElem?.1 hl
  have := h k l (List.getElem?_eq_some_iff.1 hk).1 hk
  simpa using this
end Go.Proofs.Ytmoelakdfgggfaa
