/-
  Plain mathematics, going on: matrices and their inverses, polynomials and their roots, Cauchy's matrix. Nothing of the program here.
-/
import Derived.Test.YtmfbgogfefgglaaLinA
namespace Go.Proofs.Ytmfbgogfefgglaa
set_option linter.unusedVariables false
section
variable {F : Type} [Fld F]
open Fld

/-- Rows that are tied are made of one row less. -/
theorem dep_drop {n m : Nat} {a : Nat → Nat → F} (h : ¬ Indep n (m + 1) a) : ∃ v D : Nat → Nat → F, ∀ i, i < m + 1 → ∀ j, j < n → a i j = fsm m (fun k => D i k * v k j) := by
  obtain ⟨c, h0, p, hp, hc⟩ : ∃ c : Nat → F, (∀ j, j < n → fsm (m + 1) (fun i => c i * a i j) = 0) ∧ ∃ p, p < m + 1 ∧ c p ≠ 0 := by
    apply Classical.byContradiction
    intro hno
    refine h fun c hc i hi => Classical.byContradiction fun hne => hno ⟨c, hc, i, hi, hne⟩
  refine ⟨fun k j => a (skip p k) j, fun i k => if i = p then c (skip p k) * inv (c p) else if skip p k = i then 1 else 0, fun i hi j hj => ?_⟩
  by_cases e : i = p
  · subst e
    have h1 := h0 j hj
    rw [sm_skip _ (by omega : i ≤ m)] at h1
    have h2 := f_eq_of_add h1
    have e1 : fsm m (fun k => (if i = i then c (skip i k) * inv (c i) else if skip i k = i then 1 else 0) * a (skip i k) j) = fsm m (fun k => inv (c i) * (c (skip i k) * a (skip i k) j)) := sm_congr fun k _ => by
      rw [if_pos rfl, mul_comm (c (skip i k)), mul_assoc]
    rw [e1, sm_mul, h2, ← mul_assoc, mul_comm (inv (c i)), mul_inv _ hc, f_one_mul]
  · have hk : ∃ k, k < m ∧ skip p k = i := by
      by_cases hlt : i < p
      · exact ⟨i, by omega, by unfold skip; rw [if_pos hlt]⟩
      · exact ⟨i - 1, by omega, by unfold skip; rw [if_neg (by omega)]; omega⟩
    obtain ⟨k, hkm, hks⟩ := hk
    show a i j = fsm m (fun k => (if i = p then c (skip p k) * inv (c p) else if skip p k = i then 1 else 0) * a (skip p k) j)
    rw [sm_one (f := fun k => (if i = p then c (skip p k) * inv (c p) else if skip p k = i then 1 else 0) * a (skip p k) j) hkm (fun l _ hl => by
      show (if i = p then c (skip p l) * inv (c p) else if skip p l = i then 1 else 0) * a (skip p l) j = 0
      rw [if_neg e, if_neg (fun h2 => hl ?_), f_zero_mul]
      unfold skip at hks h2
      split at hks <;> split at h2 <;> omega)]
    show a i j = (if i = p then c (skip p k) * inv (c p) else if skip p k = i then 1 else 0) * a (skip p k) j
    rw [if_neg e, if_pos hks, f_one_mul, hks]
/-- As many as there are: none is tied. -/
theorem IsRank.indep {n m : Nat} {a : Nat → Nat → F} (h : IsRank n m a m) : Indep n m a := by
  apply Classical.byContradiction
  intro hd
  cases m with
  | zero => exact hd (fun c _ i hi => by omega)
  | succ m =>
    obtain ⟨v, D, hv⟩ := dep_drop hd
    obtain ⟨b, A, B, hi, hA, hB⟩ := h
    have := hi.span (span_trans hA hv)
    omega
/-- Rows that make, and are made of, each other are tied both, or neither. -/
theorem Indep.of_made {n m : Nat} {a a' C : Nat → Nat → F} (h : Indep n m a) (hC : ∀ i, i < m → ∀ j, j < n → a i j = fsm m (fun l => C i l * a' l j)) : Indep n m a' := by
  apply Classical.byContradiction
  intro hd
  cases m with
  | zero => exact hd (fun c _ i hi => by omega)
  | succ m =>
    obtain ⟨v, D, hv⟩ := dep_drop hd
    have := h.span (span_trans hC hv)
    omega

/-- The product, n places in the midst. -/
def mm (n : Nat) (a b : Nat → Nat → F) (i j : Nat) : F := fsm n (fun k => a i k * b k j)
def un (i j : Nat) : F := if i = j then 1 else 0
theorem mm_assoc (n m : Nat) (a b c : Nat → Nat → F) (i j : Nat) : mm m (mm n a b) c i j = mm n a (mm m b c) i j := by
  unfold mm
  have e1 : fsm m (fun k => fsm n (fun l => a i l * b l k) * c k j) = fsm m (fun k => fsm n (fun l => a i l * b l k * c k j)) := sm_congr fun k _ => by rw [sm_mul_r]
  rw [e1, sm_swap]
  exact sm_congr fun l _ => by rw [← sm_mul]; exact sm_congr fun k _ => by rw [mul_assoc]
theorem mm_un_left {n : Nat} (a : Nat → Nat → F) {i : Nat} (hi : i < n) (j : Nat) : mm n un a i j = a i j := by
  unfold mm un
  rw [sm_one hi (fun k _ hk => by rw [if_neg (fun e => hk e.symm), f_zero_mul]), if_pos rfl, f_one_mul]
theorem mm_un_right {n : Nat} (a : Nat → Nat → F) (i : Nat) {j : Nat} (hj : j < n) : mm n a un i j = a i j := by
  unfold mm un
  rw [sm_one hj (fun k _ hk => by rw [if_neg hk, f_mul_zero]), if_pos rfl, mul_one]
theorem mm_congr {n : Nat} {a a' b b' : Nat → Nat → F} {i j : Nat} (ha : ∀ k, k < n → a i k = a' i k) (hb : ∀ k, k < n → b k j = b' k j) : mm n a b i j = mm n a' b' i j :=
  sm_congr fun k hk => by rw [ha k hk, hb k hk]
theorem un_indep (n : Nat) : Indep n n (un : Nat → Nat → F) := by
  intro c h i hi
  have := h i hi
  rw [sm_one hi (fun k _ hk => by unfold un; rw [if_neg hk, f_mul_zero])] at this
  unfold un at this
  rw [if_pos rfl, mul_one] at this
  exact this
/-- What has an inverse from the left has no tied rows, .. -/
theorem indep_of_inv {n : Nat} {a m : Nat → Nat → F} (h : ∀ i, i < n → ∀ j, j < n → mm n m a i j = un i j) : Indep n n a :=
  (un_indep n).of_made (C := m) fun i hi j hj => (h i hi j hj).symm
/-- .. and the inverse is one from the right, too. -/
theorem inv_right {n : Nat} {a m : Nat → Nat → F} (h : ∀ i, i < n → ∀ j, j < n → mm n m a i j = un i j) : ∀ i, i < n → ∀ j, j < n → mm n a m i j = un i j := by
  have hi := indep_of_inv h
  intro i hin
  have h1 := hi (fun k => mm n a m i k + un i k) (fun j hj => by
    have e1 : fsm n (fun k => (mm n a m i k + un i k) * a k j) = mm n (mm n a m) a i j + mm n un a i j := by
      unfold mm
      rw [← sm_add]
      exact sm_congr fun k _ => f_add_mul _ _ _
    rw [e1, mm_assoc, mm_un_left a hin, mm_congr (a' := a) (b' := un) (fun _ _ => rfl) (fun k hk => h k hk j hj), mm_un_right a i hj, add_self])
  intro j hj
  exact f_eq_of_add (h1 j hj)
/-- Gauss's step: the first c columns are the unit's, and no row from c on has a number in column c: the rows are tied. -/
theorem no_pivot {n c : Nat} {a : Nat → Nat → F} (hc : c < n) (hu : ∀ i, i < n → ∀ j, j < c → a i j = un i j) (h0 : ∀ i, c ≤ i → i < n → a i c = 0) : ¬ Indep n n a := by
  intro hi
  obtain ⟨d, ⟨i0, hi0, hd⟩, hz⟩ := homog (n - c - 1) (n - c) (fun i j => a (c + i) (c + 1 + j)) (by omega)
  refine hd ?_
  have hs : ∀ j, fsm n (fun i => (if i < c then (0 : F) else d (i - c)) * a i j) = fsm (n - c) (fun i => d i * a (c + i) j) := by
    intro j
    obtain ⟨m, hm⟩ : ∃ m, n = c + m := ⟨n - c, by omega⟩
    have hg : ∀ m, fsm (c + m) (fun i => (if i < c then (0 : F) else d (i - c)) * a i j) = fsm m (fun i => d i * a (c + i) j) := by
      intro m
      induction m with
      | zero => exact sm_zero fun i hi => by rw [if_pos (show i < c from hi), f_zero_mul]
      | succ m ih =>
        rw [show c + (m + 1) = (c + m) + 1 by omega]
        show fsm (c + m) _ + (if c + m < c then (0 : F) else d (c + m - c)) * a (c + m) j = fsm m _ + d m * a (c + m) j
        rw [ih, if_neg (by omega), show c + m - c = m by omega]
    rw [hm, show c + m - c = m by omega]
    exact hg m
  have h1 := hi (fun i => if i < c then 0 else d (i - c)) (fun j hj => by
    rw [hs j]
    by_cases h2 : j < c
    · exact sm_zero fun i hin => by
        rw [hu (c + i) (by omega) j h2]
        unfold un
        rw [if_neg (by omega), f_mul_zero]
    · by_cases h3 : j = c
      · subst h3
        exact sm_zero fun i hin => by rw [h0 (j + i) (by omega) (by omega), f_mul_zero]
      · have := hz (j - c - 1) (by omega)
        rw [show c + 1 + (j - c - 1) = j by omega] at this
        exact this) (c + i0) (by omega)
  rw [if_neg (by omega), show c + i0 - c = i0 by omega] at h1
  exact h1

/-- A polynomial of fewer than d powers. -/
def Deg : Nat → (F → F) → Prop
  | 0, P => ∀ y, P y = 0
  | d + 1, P => ∃ (c : F) (Q : F → F), Deg d Q ∧ ∀ y, P y = c + y * Q y
theorem Deg.congr {P R : F → F} (e : ∀ y, P y = R y) : ∀ {d : Nat}, Deg d P → Deg d R
  | 0, h => fun y => by rw [← e y]; exact h y
  | d + 1, h => by
    obtain ⟨c, Q, hQ, hP⟩ := h
    exact ⟨c, Q, hQ, fun y => by rw [← e y]; exact hP y⟩
theorem Deg.add : ∀ {d : Nat} {P R : F → F}, Deg d P → Deg d R → Deg d (fun y => P y + R y)
  | 0, P, R, h, k => fun y => by show P y + R y = 0; rw [h y, k y, add_zero]
  | d + 1, P, R, h, k => by
    obtain ⟨c, Q, hQ, hP⟩ := h
    obtain ⟨c', Q', hQ', hR⟩ := k
    refine ⟨c + c', fun y => Q y + Q' y, hQ.add hQ', fun y => ?_⟩
    show P y + R y = c + c' + y * (Q y + Q' y)
    rw [hP y, hR y, mul_add, add_assoc, add_assoc, f_add_left_comm (y * Q y)]
theorem Deg.mul (x : F) : ∀ {d : Nat} {P : F → F}, Deg d P → Deg d (fun y => x * P y)
  | 0, P, h => fun y => by show x * P y = 0; rw [h y, f_mul_zero]
  | d + 1, P, h => by
    obtain ⟨c, Q, hQ, hP⟩ := h
    refine ⟨x * c, fun y => x * Q y, hQ.mul x, fun y => ?_⟩
    show x * P y = x * c + y * (x * Q y)
    rw [hP y, mul_add, f_mul_left_comm y]
theorem Deg.zero : ∀ (d : Nat), Deg d (fun _ : F => (0 : F))
  | 0 => fun _ => rfl
  | d + 1 => ⟨0, fun _ => 0, Deg.zero d, fun y => by rw [f_mul_zero, add_zero]⟩
theorem Deg.up : ∀ {d : Nat} {P : F → F}, Deg d P → Deg (d + 1) P
  | 0, P, h => ⟨0, fun _ => 0, Deg.zero 0, fun y => by rw [h y, f_mul_zero, add_zero]⟩
  | d + 1, P, h => by
    obtain ⟨c, Q, hQ, hP⟩ := h
    exact ⟨c, Q, hQ.up, hP⟩
theorem Deg.lin (x : F) {d : Nat} {P : F → F} (h : Deg d P) : Deg (d + 1) (fun y => P y * (x + y)) := by
  have h1 : Deg (d + 1) (fun y => x * P y) := (h.mul x).up
  have h2 : Deg (d + 1) (fun y => y * P y) := ⟨0, P, h, fun y => (f_zero_add _).symm⟩
  exact (h1.add h2).congr fun y => by rw [mul_add, mul_comm (P y) x, mul_comm (P y) y]
theorem Deg.cut (r : F) : ∀ {d : Nat} {P : F → F}, Deg (d + 1) P → ∃ Q, Deg d Q ∧ ∀ y, P y = P r + (y + r) * Q y
  | 0, P, h => by
    obtain ⟨c, Q, hQ, hP⟩ := h
    exact ⟨fun _ => 0, fun _ => rfl, fun y => by rw [hP y, hP r, hQ y, hQ r, f_mul_zero, f_mul_zero, f_mul_zero, add_zero, add_zero]⟩
  | d + 1, P, h => by
    obtain ⟨c, P1, hP1, hP⟩ := h
    obtain ⟨Q1, hQ1, h1⟩ := hP1.cut r
    refine ⟨fun y => P1 r + y * Q1 y, ⟨P1 r, Q1, hQ1, fun _ => rfl⟩, fun y => ?_⟩
    show P y = P r + (y + r) * (P1 r + y * Q1 y)
    rw [hP y, hP r, h1 y, add_assoc]
    congr 1
    simp only [mul_add, f_add_mul]
    rw [f_mul_left_comm y r (Q1 y)]
    have h3 : r * P1 r + (y * P1 r + r * P1 r + (y * (y * Q1 y) + r * (y * Q1 y))) = y * P1 r + (y * (y * Q1 y) + r * (y * Q1 y)) := by
      rw [add_comm (y * P1 r) (r * P1 r), add_assoc, ← add_assoc (r * P1 r), add_self, f_zero_add]
    exact h3.symm
/-- As many roots as powers: it is nothing. -/
theorem Deg.roots : ∀ {d : Nat} {P : F → F} (r : Nat → F), Deg d P → (∀ i, i < d → ∀ k, k < d → i ≠ k → r i ≠ r k) → (∀ i, i < d → P (r i) = 0) → ∀ y, P y = 0
  | 0, P, r, h, _, _ => h
  | d + 1, P, r, h, hne, hr => by
    obtain ⟨Q, hQ, hP⟩ := h.cut (r d)
    have h0 := hr d (by omega)
    have hq := Deg.roots r hQ (fun i hi k hk e => hne i (by omega) k (by omega) e) (fun i hi => by
      have h1 := hr i (by omega)
      rw [hP (r i), h0, f_zero_add] at h1
      exact f_zero_of_mul h1 (f_add_ne (hne i (by omega) d (by omega) (by omega))))
    intro y
    rw [hP y, h0, hq y, f_mul_zero, add_zero]

/-- The product of the first n. -/
def pr : Nat → (Nat → F) → F
  | 0, _ => 1
  | n + 1, f => pr n f * f n
theorem pr_congr {n : Nat} {f g : Nat → F} (h : ∀ i, i < n → f i = g i) : pr n f = pr n g := by
  induction n with
  | zero => rfl
  | succ n ih => unfold pr; rw [ih (fun i hi => h i (by omega)), h n (by omega)]
theorem pr_ne {n : Nat} {f : Nat → F} (h : ∀ i, i < n → f i ≠ 0) : pr n f ≠ 0 := by
  induction n with
  | zero => exact one_ne
  | succ n ih => unfold pr; exact f_mul_ne (ih fun i hi => h i (by omega)) (h n (by omega))
theorem pr_out {n t : Nat} (ht : t < n) (f : Nat → F) : pr n f = f t * pr n (fun l => if l = t then 1 else f l) := by
  induction n with
  | zero => omega
  | succ n ih =>
    show pr n f * f n = f t * (pr n (fun l => if l = t then 1 else f l) * (if n = t then 1 else f n))
    by_cases e : t = n
    · subst e
      rw [if_pos rfl, mul_one, mul_comm]
      congr 1
      exact pr_congr fun i hi => by rw [if_neg (by omega)]
    · rw [ih (by omega), if_neg (fun h => e h.symm), mul_assoc]
theorem pr_zero {n t : Nat} (ht : t < n) {f : Nat → F} (h : f t = 0) : pr n f = 0 := by rw [pr_out ht, h, f_zero_mul]
theorem deg_pr (x : Nat → F) : ∀ n, Deg (n + 1) (fun y => pr n (fun l => x l + y))
  | 0 => ⟨1, fun _ => 0, fun _ => rfl, fun y => by show (1 : F) = 1 + y * 0; rw [f_mul_zero, add_zero]⟩
  | n + 1 => (deg_pr x n).lin (x n)
theorem deg_prs (x : Nat → F) (t : Nat) : ∀ n, t < n → Deg n (fun y => pr n (fun l => if l = t then 1 else x l + y))
  | 0, h => by omega
  | n + 1, h => by
    by_cases e : t = n
    · subst e
      refine (deg_pr x t).congr fun y => ?_
      show pr t (fun l => x l + y) = pr t (fun l => if l = t then 1 else x l + y) * (if t = t then 1 else x t + y)
      rw [if_pos rfl, mul_one]
      exact pr_congr fun i hi => by rw [if_neg (by omega)]
    · refine ((deg_prs x t n (by omega)).lin (x n)).congr fun y => ?_
      show _ = pr n (fun l => if l = t then 1 else x l + y) * (if n = t then 1 else x n + y)
      rw [if_neg (fun h => e h.symm)]
theorem deg_sm {d : Nat} (P : Nat → F → F) (c : Nat → F) : ∀ m, (∀ t, t < m → Deg d (P t)) → Deg d (fun y => fsm m (fun t => c t * P t y))
  | 0, _ => Deg.zero d
  | m + 1, h => (deg_sm P c m fun t ht => h t (by omega)).add ((h m (by omega)).mul (c m))
/-- Cauchy: as many numbers of one kind as of the other, all unlike: no sum of multiples of the inverses of their sums is nothing, but that of noughts. -/
theorem cauchy {n : Nat} (x y : Nat → F) (hx : ∀ i, i < n → ∀ k, k < n → i ≠ k → x i ≠ x k) (hy : ∀ i, i < n → ∀ k, k < n → i ≠ k → y i ≠ y k) (hxy : ∀ i, i < n → ∀ j, j < n → x i ≠ y j) :
    Indep n n (fun i j => inv (x i + y j)) := by
  intro c h
  have hN := deg_sm (fun t y => pr n (fun l => if l = t then 1 else x l + y)) c n (fun t ht => deg_prs x t n ht)
  have h0 := hN.roots y hy (fun j hj => by
    have e1 : fsm n (fun t => c t * pr n (fun l => if l = t then 1 else x l + y j)) = fsm n (fun t => pr n (fun l => x l + y j) * (c t * inv (x t + y j))) := sm_congr fun t ht => by
      have hne : x t + y j ≠ 0 := f_add_ne (hxy t ht j hj)
      rw [pr_out ht (fun l => x l + y j), mul_comm (x t + y j), mul_assoc, f_mul_left_comm (x t + y j) (c t), mul_inv _ hne, mul_one, mul_comm]
    rw [e1, sm_mul, h j hj, f_mul_zero])
  intro i hi
  have h1 := h0 (x i)
  rw [sm_one hi (fun t ht hne => by
    rw [pr_zero hi (by rw [if_neg (fun e => hne e.symm), add_self]), f_mul_zero])] at h1
  rw [mul_comm] at h1
  refine f_zero_of_mul h1 (pr_ne fun l hl => ?_)
  split
  · exact one_ne
  · rename_i hne
    exact f_add_ne (hx l hl i hi hne)
end
end Go.Proofs.Ytmfbgogfefgglaa
