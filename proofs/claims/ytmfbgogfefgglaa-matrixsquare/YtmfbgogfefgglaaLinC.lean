/-
  Plain mathematics, going on: untied rows have an inverse; any k rows of the unit and Cauchy's rows below it are untied. Nothing of the program here.
-/
import Derived.Test.YtmfbgogfefgglaaLinB
namespace Go.Proofs.Ytmfbgogfefgglaa
set_option linter.unusedVariables false
section
variable {F : Type} [Fld F]
open Fld

/-- As many untied rows as columns: each row is made of them. -/
theorem Indep.makes {n : Nat} {a : Nat → Nat → F} (h : Indep n n a) (v : Nat → F) : ∃ c : Nat → F, ∀ j, j < n → v j = fsm n (fun i => c i * a i j) := by
  obtain ⟨d, ⟨i0, hi0, hd⟩, h0⟩ := homog n (n + 1) (fun i j => if i < n then a i j else v j) (by omega)
  have hs : ∀ j, fsm (n + 1) (fun i => d i * (if i < n then a i j else v j)) = fsm n (fun i => d i * a i j) + d n * v j := by
    intro j
    show fsm n (fun i => d i * (if i < n then a i j else v j)) + d n * (if n < n then a n j else v j) = _
    rw [if_neg (by omega)]
    congr 1
    exact sm_congr fun i hi => by rw [if_pos hi]
  have hn : d n ≠ 0 := by
    intro e
    have hz := h d (fun j hj => by
      have := h0 j hj
      rw [hs j, e, f_zero_mul, add_zero] at this
      exact this)
    by_cases hi : i0 < n
    · exact hd (hz i0 hi)
    · have : i0 = n := by omega
      subst this
      exact hd e
  refine ⟨fun i => inv (d n) * d i, fun j hj => ?_⟩
  have h1 := h0 j hj
  rw [hs j] at h1
  have h2 := f_eq_of_add h1
  have e1 : fsm n (fun i => inv (d n) * d i * a i j) = inv (d n) * fsm n (fun i => d i * a i j) := by
    rw [← sm_mul]; exact sm_congr fun i _ => by rw [mul_assoc]
  rw [e1, h2, ← mul_assoc, mul_comm (inv (d n)), mul_inv _ hn, f_one_mul]
/-- .. so there is an inverse, .. -/
theorem Indep.inv_exists {n : Nat} {a : Nat → Nat → F} (h : Indep n n a) : ∃ m : Nat → Nat → F, ∀ i, i < n → ∀ j, j < n → mm n m a i j = un i j :=
  ⟨fun i => (h.makes (fun j => un i j)).choose, fun i _ j hj => ((h.makes (fun j => un i j)).choose_spec j hj).symm⟩
/-- .. one alone. -/
theorem minv_unique {n : Nat} {a m m' : Nat → Nat → F} (h : ∀ i, i < n → ∀ j, j < n → mm n m a i j = un i j) (h' : ∀ i, i < n → ∀ j, j < n → mm n m' a i j = un i j) : ∀ i, i < n → ∀ j, j < n → m i j = m' i j := by
  intro i hi j hj
  have hr := inv_right h
  have e1 : mm n (mm n m' a) m i j = m i j := by
    rw [mm_congr (a' := un) (b' := m) (fun k hk => h' i hi k hk) (fun _ _ => rfl), mm_un_left m hi]
  have e2 : mm n (mm n m' a) m i j = m' i j := by
    rw [mm_assoc, mm_congr (a' := m') (b' := un) (fun _ _ => rfl) (fun k hk => hr k hk j hj), mm_un_right m' i hj]
  rw [← e1, e2]

/-- Any k of the rows: those of the unit, and behind them Cauchy's. -/
theorem rs_indep {k N : Nat} (X : Nat → F) (sel : Nat → Nat) (hX : ∀ i, i < N → ∀ j, j < N → i ≠ j → X i ≠ X j) (hk : k ≤ N) (hs : ∀ t, t < k → sel t < N) (hd : ∀ t, t < k → ∀ u, u < k → t ≠ u → sel t ≠ sel u) :
    Indep k k (fun t j => if sel t < k then un (sel t) j else inv (X (sel t) + X j)) := by
  intro c h
  let x : Nat → F := fun t => X (sel t)
  have hx : ∀ t, t < k → ∀ u, u < k → t ≠ u → x t ≠ x u := fun t ht u hu e => hX _ (hs t ht) _ (hs u hu) (hd t ht u hu e)
  let c' : Nat → F := fun t => if sel t < k then 0 else c t
  have hN := deg_sm (fun t y => pr k (fun l => if l = t then 1 else x l + y)) c' k (fun t ht => deg_prs x t k ht)
  have h0 := hN.roots X (fun i hi j hj e => hX i (by omega) j (by omega) e) (fun j hj => by
    by_cases hhit : ∃ u, u < k ∧ sel u = j
    · obtain ⟨u, hu, rfl⟩ := hhit
      refine sm_zero fun t ht => ?_
      by_cases ht2 : sel t < k
      · show (if sel t < k then (0 : F) else c t) * _ = 0
        rw [if_pos ht2, f_zero_mul]
      · have hne : u ≠ t := fun e => ht2 (by rw [← e]; exact hj)
        rw [pr_zero hu (by rw [if_neg hne]; exact add_self _), f_mul_zero]
    · have hne : ∀ l, l < k → x l + X j ≠ 0 := fun l hl => f_add_ne (hX _ (hs l hl) j (by omega) (fun e => hhit ⟨l, hl, e⟩))
      have e1 : fsm k (fun t => c' t * pr k (fun l => if l = t then 1 else x l + X j)) = fsm k (fun t => pr k (fun l => x l + X j) * (c t * (if sel t < k then un (sel t) j else inv (X (sel t) + X j)))) := sm_congr fun t ht => by
        show (if sel t < k then (0 : F) else c t) * _ = _
        by_cases ht2 : sel t < k
        · rw [if_pos ht2, if_pos ht2, f_zero_mul]
          unfold un
          rw [if_neg (fun e => hhit ⟨t, ht, e⟩), f_mul_zero, f_mul_zero]
        · rw [if_neg ht2, if_neg ht2, pr_out ht (fun l => x l + X j), mul_comm (x t + X j), mul_assoc, f_mul_left_comm (x t + X j) (c t)]
          show c t * _ = _ * (c t * ((x t + X j) * inv (x t + X j)))
          rw [mul_inv _ (hne t ht), mul_one, mul_comm]
      rw [e1, sm_mul, h j hj, f_mul_zero])
  have hT : ∀ t, t < k → ¬ sel t < k → c t = 0 := by
    intro t ht ht2
    have h1 := h0 (x t)
    rw [sm_one ht (fun u hu hne => by rw [pr_zero ht (by rw [if_neg (fun e => hne e.symm)]; exact add_self _), f_mul_zero])] at h1
    have h2 : c' t = c t := by show (if sel t < k then (0 : F) else c t) = c t; rw [if_neg ht2]
    rw [h2, mul_comm] at h1
    refine f_zero_of_mul h1 (pr_ne fun l hl => ?_)
    split
    · exact one_ne
    · rename_i hne
      exact f_add_ne (hx l hl t ht hne)
  intro t ht
  by_cases ht2 : sel t < k
  · have h1 : fsm k (fun i => c i * (if sel i < k then un (sel i) (sel t) else inv (X (sel i) + X (sel t)))) = 0 := h (sel t) ht2
    rw [sm_one ht (fun u hu hne => by
      by_cases hu2 : sel u < k
      · rw [if_pos hu2]
        unfold un
        rw [if_neg (hd u hu t ht hne), f_mul_zero]
      · rw [hT u hu hu2, f_zero_mul])] at h1
    rw [if_pos ht2] at h1
    unfold un at h1
    rw [if_pos rfl, mul_one] at h1
    exact h1
  · exact hT t ht ht2
end
end Go.Proofs.Ytmfbgogfefgglaa
