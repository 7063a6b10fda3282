/-
  Plain mathematics: a field in which x + x = 0, sums, matrices as functions of two places, rows that no sum of multiples ties, ranks, Cauchy's matrix. Nothing of the program here.
-/
import Derived.WalkKit
namespace Go.Proofs.YtmjeojbdieaakaaDoor
set_option linter.unusedVariables false

class Fld (F : Type) extends Add F, Mul F, Zero F, One F where
  inv : F → F
  add_comm : ∀ x y : F, x + y = y + x
  add_assoc : ∀ x y z : F, x + y + z = x + (y + z)
  add_zero : ∀ x : F, x + 0 = x
  add_self : ∀ x : F, x + x = 0
  mul_comm : ∀ x y : F, x * y = y * x
  mul_assoc : ∀ x y z : F, x * y * z = x * (y * z)
  mul_add : ∀ x y z : F, x * (y + z) = x * y + x * z
  mul_one : ∀ x : F, x * 1 = x
  mul_inv : ∀ x : F, x ≠ 0 → x * inv x = 1
  one_ne : (1 : F) ≠ 0

section
variable {F : Type} [Fld F]
open Fld

theorem f_zero_add (x : F) : 0 + x = x := by rw [add_comm, add_zero]
theorem f_mul_zero (x : F) : x * 0 = 0 := by
  have h := mul_add x 0 0
  rw [add_zero] at h
  have h2 := congrArg (· + x * 0) h
  simp only [add_self, f_zero_add] at h2
  exact h2.symm
theorem f_zero_mul (x : F) : 0 * x = 0 := by rw [mul_comm, f_mul_zero]
theorem f_one_mul (x : F) : 1 * x = x := by rw [mul_comm, mul_one]
theorem f_add_mul (x y z : F) : (x + y) * z = x * z + y * z := by rw [mul_comm, mul_add, mul_comm z x, mul_comm z y]
theorem f_eq_of_add {x y : F} (h : x + y = 0) : x = y := by
  have := congrArg (· + y) h
  simp only [add_assoc, add_self, add_zero, f_zero_add] at this
  exact this
theorem f_add_left_comm (x y z : F) : x + (y + z) = y + (x + z) := by rw [← add_assoc, add_comm x y, add_assoc]
theorem f_mul_left_comm (x y z : F) : x * (y * z) = y * (x * z) := by rw [← mul_assoc, mul_comm x y, mul_assoc]
theorem f_zero_of_mul {x y : F} (h : x * y = 0) (hx : x ≠ 0) : y = 0 := by
  have := congrArg (inv x * ·) h
  simp only [f_mul_zero] at this
  rw [← mul_assoc, mul_comm (inv x) x, mul_inv x hx, f_one_mul] at this
  exact this
theorem f_mul_ne {x y : F} (hx : x ≠ 0) (hy : y ≠ 0) : x * y ≠ 0 := fun h => hy (f_zero_of_mul h hx)
theorem f_inv_ne {x : F} (hx : x ≠ 0) : inv x ≠ 0 := fun h => by
  have := mul_inv x hx
  rw [h, f_mul_zero] at this
  exact one_ne this.symm
theorem f_add_ne {x y : F} (h : x ≠ y) : x + y ≠ 0 := fun e => h (f_eq_of_add e)

/-- The sum of the first n. -/
def fsm : Nat → (Nat → F) → F
  | 0, _ => 0
  | n + 1, f => fsm n f + f n
theorem sm_congr {n : Nat} {f g : Nat → F} (h : ∀ i, i < n → f i = g i) : fsm n f = fsm n g := by
  induction n with
  | zero => rfl
  | succ n ih => unfold fsm; rw [ih (fun i hi => h i (by omega)), h n (by omega)]
theorem sm_zero {n : Nat} {f : Nat → F} (h : ∀ i, i < n → f i = 0) : fsm n f = 0 := by
  induction n with
  | zero => rfl
  | succ n ih => unfold fsm; rw [ih (fun i hi => h i (by omega)), h n (by omega), add_zero]
theorem sm_add (n : Nat) (f g : Nat → F) : fsm n (fun i => f i + g i) = fsm n f + fsm n g := by
  induction n with
  | zero => exact (add_zero 0).symm
  | succ n ih => unfold fsm; rw [ih, add_assoc, add_assoc, f_add_left_comm (fsm n g)]
theorem sm_mul (n : Nat) (c : F) (f : Nat → F) : fsm n (fun i => c * f i) = c * fsm n f := by
  induction n with
  | zero => exact (f_mul_zero c).symm
  | succ n ih => unfold fsm; rw [ih, mul_add]
theorem sm_mul_r (n : Nat) (c : F) (f : Nat → F) : fsm n (fun i => f i * c) = fsm n f * c := by
  rw [mul_comm, ← sm_mul]; exact sm_congr fun i _ => mul_comm _ _
theorem sm_swap (n m : Nat) (f : Nat → Nat → F) : fsm n (fun i => fsm m (fun j => f i j)) = fsm m (fun j => fsm n (fun i => f i j)) := by
  induction n with
  | zero => exact (sm_zero fun _ _ => rfl).symm
  | succ n ih => simp only [fsm]; rw [ih, ← sm_add]
/-- One of them alone. -/
theorem sm_one {n : Nat} {f : Nat → F} {p : Nat} (hp : p < n) (h : ∀ i, i < n → i ≠ p → f i = 0) : fsm n f = f p := by
  induction n with
  | zero => omega
  | succ n ih =>
    unfold fsm
    by_cases e : p = n
    · subst e
      rw [sm_zero (fun i hi => h i (by omega) (by omega)), f_zero_add]
    · rw [ih (by omega) (fun i hi hne => h i (by omega) hne), h n (by omega) (by omega), add_zero]
/-- All but one, and the one. -/
def skip (p i : Nat) : Nat := if i < p then i else i + 1
theorem sm_skip {n : Nat} (f : Nat → F) {p : Nat} (hp : p ≤ n) : fsm (n + 1) f = fsm n (fun i => f (skip p i)) + f p := by
  induction n with
  | zero => obtain rfl : p = 0 := by omega
            rfl
  | succ n ih =>
    by_cases e : p = n + 1
    · subst e
      rw [show fsm (n + 1 + 1) f = fsm (n + 1) f + f (n + 1) from rfl]
      congr 1
      exact sm_congr fun i hi => by unfold skip; rw [if_pos hi]
    · rw [show fsm (n + 1 + 1) f = fsm (n + 1) f + f (n + 1) from rfl, ih (by omega)]
      rw [show fsm (n + 1) (fun i => f (skip p i)) = fsm n (fun i => f (skip p i)) + f (skip p n) from rfl]
      have hs : skip p n = n + 1 := by unfold skip; rw [if_neg (by omega)]
      rw [hs, add_assoc, add_assoc, add_comm (f p)]
theorem skip_ne (p i : Nat) : skip p i ≠ p := by unfold skip; split <;> omega
theorem skip_lt {p i n : Nat} (h : i < n) : skip p i < n + 1 := by unfold skip; split <;> omega

/-- More rows than columns: some of them are tied. -/
theorem homog : ∀ (n m : Nat) (a : Nat → Nat → F), n < m → ∃ c : Nat → F, (∃ i, i < m ∧ c i ≠ 0) ∧ ∀ j, j < n → fsm m (fun i => c i * a i j) = 0
  | 0, m, a, h => ⟨fun i => if i = 0 then 1 else 0, ⟨0, h, by simp; exact one_ne⟩, fun j hj => by omega⟩
  | n + 1, m, a, h => by
    by_cases hz : ∀ i, i < m → a i n = 0
    · obtain ⟨c, hc, h0⟩ := homog n m a (by omega)
      refine ⟨c, hc, fun j hj => ?_⟩
      by_cases e : j = n
      · subst e
        exact sm_zero fun i hi => by rw [hz i hi, f_mul_zero]
      · exact h0 j (by omega)
    · obtain ⟨p, hp, hpn⟩ : ∃ p, p < m ∧ a p n ≠ 0 := by
        apply Classical.byContradiction
        intro hno
        exact hz fun i hi => Classical.byContradiction fun hne => hno ⟨i, hi, hne⟩
      obtain ⟨m', rfl⟩ : ∃ m', m = m' + 1 := ⟨m - 1, by omega⟩
      obtain ⟨c, ⟨i0, hi0, hc0⟩, h0⟩ := homog n m' (fun i j => a (skip p i) j + a (skip p i) n * inv (a p n) * a p j) (by omega)
      let s : F := fsm m' (fun i => c i * (a (skip p i) n * inv (a p n)))
      let d : Nat → F := fun i => if i < p then c i else if i = p then s else c (i - 1)
      have hd1 : ∀ i, d (skip p i) = c i := by
        intro i
        show (if skip p i < p then c (skip p i) else if skip p i = p then s else c (skip p i - 1)) = c i
        unfold skip
        by_cases hi : i < p
        · rw [if_pos hi, if_pos hi]
        · rw [if_neg hi, if_neg (by omega), if_neg (by omega)]; rfl
      have hd2 : d p = s := by
        show (if p < p then c p else if p = p then s else c (p - 1)) = s
        rw [if_neg (by omega), if_pos rfl]
      refine ⟨d, ⟨skip p i0, skip_lt hi0, by rw [hd1]; exact hc0⟩, fun j hj => ?_⟩
      rw [sm_skip _ (by omega : p ≤ m'), hd2]
      have e1 : fsm m' (fun i => d (skip p i) * a (skip p i) j) = fsm m' (fun i => c i * a (skip p i) j) := sm_congr fun i _ => by rw [hd1]
      rw [e1]
      have e2 : s * a p j = fsm m' (fun i => c i * (a (skip p i) n * inv (a p n) * a p j)) := by
        show fsm m' (fun i => c i * (a (skip p i) n * inv (a p n))) * a p j = _
        rw [← sm_mul_r]
        exact sm_congr fun i _ => by simp only [mul_assoc]
      rw [e2, ← sm_add]
      have e3 : fsm m' (fun i => c i * a (skip p i) j + c i * (a (skip p i) n * inv (a p n) * a p j)) = fsm m' (fun i => c i * (a (skip p i) j + a (skip p i) n * inv (a p n) * a p j)) := sm_congr fun i _ => by rw [mul_add]
      rw [e3]
      by_cases e : j = n
      · subst e
        refine sm_zero fun i _ => ?_
        rw [mul_assoc, mul_comm (inv (a p j)), mul_inv _ hpn, mul_one, add_self, f_mul_zero]
      · exact h0 j (by omega)

/-- No sum of multiples of the first m rows, over the first n columns, is nothing, but that of noughts. -/
def Indep (n m : Nat) (a : Nat → Nat → F) : Prop := ∀ c : Nat → F, (∀ j, j < n → fsm m (fun i => c i * a i j) = 0) → ∀ i, i < m → c i = 0
theorem Indep.le {n m : Nat} {a : Nat → Nat → F} (h : Indep n m a) : m ≤ n := by
  apply Classical.byContradiction
  intro hlt
  obtain ⟨c, ⟨i, hi, hc⟩, h0⟩ := homog n m a (by omega)
  exact hc (h c h0 i hi)
/-- Steinitz: rows that aren't tied, out of s others, are no more than s. -/
theorem Indep.span {n r s : Nat} {u v A : Nat → Nat → F} (h : Indep n r u) (hu : ∀ i, i < r → ∀ j, j < n → u i j = fsm s (fun k => A i k * v k j)) : r ≤ s := by
  apply Classical.byContradiction
  intro hlt
  obtain ⟨c, ⟨i, hi, hc⟩, h0⟩ := homog s r A (by omega)
  refine hc (h c (fun j hj => ?_) i hi)
  have e1 : fsm r (fun i => c i * u i j) = fsm r (fun i => fsm s (fun k => c i * A i k * v k j)) := sm_congr fun i hi => by
    rw [hu i hi j hj, ← sm_mul]; exact sm_congr fun k _ => by rw [mul_assoc]
  rw [e1, sm_swap]
  exact sm_zero fun k hk => by rw [sm_mul_r, h0 k hk, f_zero_mul]

/-- r is how many of the m rows are no sums of others. -/
def IsRank (n m : Nat) (a : Nat → Nat → F) (r : Nat) : Prop :=
  ∃ b A B : Nat → Nat → F, Indep n r b ∧ (∀ i, i < r → ∀ j, j < n → b i j = fsm m (fun k => A i k * a k j)) ∧ ∀ i, i < m → ∀ j, j < n → a i j = fsm r (fun k => B i k * b k j)
/-- Out of out of. -/
theorem span_trans {n m s t : Nat} {u v x A B : Nat → Nat → F} (h1 : ∀ i, i < m → ∀ j, j < n → u i j = fsm s (fun k => A i k * v k j)) (h2 : ∀ i, i < s → ∀ j, j < n → v i j = fsm t (fun k => B i k * x k j)) :
    ∀ i, i < m → ∀ j, j < n → u i j = fsm t (fun k => fsm s (fun l => A i l * B l k) * x k j) := by
  intro i hi j hj
  rw [h1 i hi j hj]
  have e1 : fsm s (fun k => A i k * v k j) = fsm s (fun k => fsm t (fun l => A i k * B k l * x l j)) := sm_congr fun k hk => by
    rw [h2 k hk j hj, ← sm_mul]; exact sm_congr fun l _ => by rw [mul_assoc]
  rw [e1, sm_swap]
  exact sm_congr fun k _ => by rw [sm_mul_r]
theorem IsRank.unique {n m r s : Nat} {a : Nat → Nat → F} (h : IsRank n m a r) (k : IsRank n m a s) : r = s := by
  obtain ⟨b, A, B, hi, hA, hB⟩ := h
  obtain ⟨b', A', B', hi', hA', hB'⟩ := k
  have h1 := hi.span (span_trans hA hB')
  have h2 := hi'.span (span_trans hA' hB)
  omega
theorem IsRank.le_rows {n m r : Nat} {a : Nat → Nat → F} (h : IsRank n m a r) : r ≤ m := by
  obtain ⟨b, A, B, hi, hA, hB⟩ := h
  exact hi.span hA
theorem IsRank.le_cols {n m r : Nat} {a : Nat → Nat → F} (h : IsRank n m a r) : r ≤ n := by
  obtain ⟨b, A, B, hi, hA, hB⟩ := h
  exact hi.le
/-- Rows that are made of the others' are no more. -/
theorem IsRank.mono {n m m' r s : Nat} {a a' C : Nat → Nat → F} (h : IsRank n m a r) (k : IsRank n m' a' s) (hC : ∀ i, i < m → ∀ j, j < n → a i j = fsm m' (fun l => C i l * a' l j)) : r ≤ s := by
  obtain ⟨b, A, B, hi, hA, hB⟩ := h
  obtain ⟨b', A', B', hi', hA', hB'⟩ := k
  exact hi.span (span_trans (span_trans hA hC) hB')
/-- Rows that the others are mapped to are no more. -/
theorem IsRank.map {n n' m r s : Nat} {a x : Nat → Nat → F} (h : IsRank n' m (fun i j => fsm n (fun k => a i k * x k j)) r) (k : IsRank n m a s) : r ≤ s := by
  obtain ⟨b, A, B, hi, hA, hB⟩ := h
  obtain ⟨b', A', B', hi', hA', hB'⟩ := k
  have hs : ∀ i, i < m → ∀ j, j < n' → fsm n (fun k => a i k * x k j) = fsm s (fun l => B' i l * fsm n (fun k => b' l k * x k j)) := by
    intro i hi j hj
    have e1 : fsm n (fun k => a i k * x k j) = fsm n (fun k => fsm s (fun l => B' i l * b' l k * x k j)) := sm_congr fun k hk => by
      rw [hB' i hi k hk, ← sm_mul_r]
    rw [e1, sm_swap]
    exact sm_congr fun l _ => by rw [← sm_mul]; exact sm_congr fun k _ => by rw [mul_assoc]
  exact hi.span (span_trans hA hs)
/-- Rows that aren't tied are all of them. -/
theorem Indep.rank {n m : Nat} {a : Nat → Nat → F} (h : Indep n m a) : IsRank n m a m := by
  have hd : ∀ i, i < m → ∀ j, j < n → a i j = fsm m (fun k => (if k = i then (1 : F) else 0) * a k j) := by
    intro i hi j hj
    rw [sm_one hi (fun k _ hk => by rw [if_neg hk, f_zero_mul]), if_pos rfl, f_one_mul]
  exact ⟨a, fun i k => if k = i then 1 else 0, fun i k => if k = i then 1 else 0, h, hd, hd⟩
end
end Go.Proofs.YtmjeojbdieaakaaDoor
