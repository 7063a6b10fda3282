/-
  A region whose operations come in any order that its edges allow: a law by an invariant over what has been done. Nothing of the program here.
-/
import Derived.WalkKit
namespace Go.Proofs.YtibcjbelcplpjaaDoor
open Go
set_option linter.unusedVariables false
section
variable {P : Program} {ops : Array Oper} {Q : Exit → Act → World → Prop}

theorem oper_wp_then {o : Oper} {a : Act} {w : World} {K : Act → World → Prop} (h : o.wp P a w (fun a w => Exit.then K Q .normal a w) (Exit.then K Q)) : o.wp P a w K Q := by
  unfold Oper.wp at *
  generalize (execOp a.eval o).run P w = r at *
  cases r with
  | ok n w' =>
    cases n <;> simp only [Oper.upon] at h ⊢ <;>
      first
        | exact h
        | exact Calls.mono h (fun e w'' he => by cases e <;> exact he)
        | exact Rows.mono h (fun _ _ he => he)
  | halt x w' => cases x <;> simp only [Oper.upon] at h ⊢ <;> exact h

theorem wpOp_of_list {i : Nat} {o : Oper} {a : Act} {w : World} {K : Act → World → Prop} (ho : ops[i]? = some o) (h : wpList P ops (Exit.then K Q) [o] a w) : wpOp P ops Q i K a w := by
  unfold wpOp
  simp only [ho]
  unfold wpList at h
  split
  · rename_i hw
    rw [if_pos hw] at h
    rcases h with h | ⟨h1, h2⟩
    · exact .inl (oper_wp_then h)
    · exact .inr ⟨h1, h2⟩
  · rename_i hw
    rw [if_neg hw] at h
    exact h

def left (f : Nat → Bool) : Nat → Nat
  | 0 => 0
  | n + 1 => left f n + (if f n then 0 else 1)
theorem left_le (f g : Nat → Bool) (h : ∀ i, f i = true → g i = true) : ∀ n, left g n ≤ left f n
  | 0 => Nat.le_refl _
  | n + 1 => by
    have ih := left_le f g h n
    unfold left
    cases hf : f n
    · split <;> simp <;> omega
    · rw [h n hf]; simpa using ih
theorem left_lt (f g : Nat → Bool) (h : ∀ i, f i = true → g i = true) (i : Nat) (h1 : f i = false) (h2 : g i = true) : ∀ n, i < n → left g n < left f n
  | 0, hi => absurd hi (by omega)
  | n + 1, hi => by
    by_cases hn : i = n
    · subst hn
      have := left_le f g h i
      unfold left
      rw [h1, h2]
      simp
      omega
    · have ih := left_lt f g h i h1 h2 n (by omega)
      have h3 : (if g n then 0 else 1) ≤ (if f n then 0 else 1) := by
        cases hf : f n
        · split <;> simp
        · rw [h n hf]; simp
      unfold left
      omega

theorem ready_mem {md : Region.Mode} {listed : Array Bool} {i : Nat} (h : i ∈ Region.ready md ops listed) : i < ops.size ∧ listed.getD i true = false := by
  unfold Region.ready at h
  simp only [List.mem_filter, List.mem_range, Bool.and_eq_true, Bool.not_eq_true'] at h
  exact ⟨h.1, h.2.1⟩
theorem getD_set (listed : Array Bool) (i j : Nat) (h : listed.getD j true = true) : (listed.setIfInBounds i true).getD j true = true := by
  simp only [Array.getD_eq_getD_getElem?, Array.getElem?_setIfInBounds] at *
  split
  · split <;> simp
  · exact h
theorem getD_set_self (listed : Array Bool) (i : Nat) : (listed.setIfInBounds i true).getD i true = true := by
  simp only [Array.getD_eq_getD_getElem?, Array.getElem?_setIfInBounds]
  by_cases h : i < listed.size <;> simp [h]
theorem left_zero (f : Nat → Bool) : ∀ n, left f n = 0 → ∀ i, i < n → f i = true
  | 0, _, i, hi => absurd hi (by omega)
  | n + 1, h, i, hi => by
    unfold left at h
    by_cases hn : i = n
    · subst hn
      cases hf : f i
      · rw [hf] at h; simp at h
      · rfl
    · exact left_zero f n (by omega) i (by omega)

theorem wpAny_inv {md : Region.Mode} (I : Array Bool → Act → World → Prop)
    (hstep : ∀ (listed : Array Bool) (a : Act) (w : World), I listed a w → ∀ (i : Nat) (o : Oper), ops[i]? = some o → i ∈ Region.ready md ops listed → wpList P ops (Exit.then (I (listed.setIfInBounds i true)) Q) [o] a w)
    (hend : ∀ (listed : Array Bool) (a : Act) (w : World), Region.ready md ops listed = [] → I listed a w → Q .normal a w) :
    ∀ (fuel : Nat) (listed : Array Bool) (a : Act) (w : World), left (fun i => listed.getD i true) ops.size ≤ fuel → I listed a w → wpAny P md ops Q fuel listed a w
  | 0, listed, a, w, hf, hI => by
    have hr : Region.ready md ops listed = [] := by
      cases hc : Region.ready md ops listed with
      | nil => rfl
      | cons x xs =>
        have hm := ready_mem (ops := ops) (md := md) (listed := listed) (i := x) (by rw [hc]; simp)
        have := left_zero (fun i => listed.getD i true) ops.size (by omega) x hm.1
        simp only [hm.2] at this
        cases this
    exact ⟨hr, hend listed a w hr hI⟩
  | fuel + 1, listed, a, w, hf, hI => by
    refine ⟨fun hr => hend listed a w hr hI, fun i hi => ?_⟩
    have hm := ready_mem hi
    obtain ⟨o, ho⟩ : ∃ o, ops[i]? = some o := ⟨ops[i]'hm.1, Array.getElem?_eq_getElem hm.1⟩
    refine wpOp_mono (fun a' w' h => ?_) (wpOp_of_list ho (hstep listed a w hI i o ho hi))
    refine wpAny_inv I hstep hend fuel _ a' w' ?_ h
    have := left_lt (fun i => listed.getD i true) (fun j => (listed.setIfInBounds i true).getD j true) (fun j hj => getD_set listed i j hj) i hm.2 (getD_set_self listed i) ops.size hm.1
    omega

theorem wp_region_inv {id : Nat} {a : Act} {w : World} (hm : P.follows .mixedOrders = true) (I : Array Bool → Act → World → Prop)
    (h0 : I (Array.replicate ops.size false) a w.drew)
    (hstep : ∀ (listed : Array Bool) (a : Act) (w : World), I listed a w → ∀ (i : Nat) (o : Oper), ops[i]? = some o → i ∈ Region.ready .any ops listed → wpList P ops (Exit.then (I (listed.setIfInBounds i true)) Q) [o] a w)
    (hend : ∀ (listed : Array Bool) (a : Act) (w : World), Region.ready .any ops listed = [] → I listed a w → Q .normal a w) : (Code.region id ops true).wp P Q a w := by
  refine wp_region_any hm (wpAny_inv I hstep hend ops.size _ a _ ?_ h0)
  have : ∀ (f : Nat → Bool) n, left f n ≤ n := by
    intro f n
    induction n with
    | zero => exact Nat.le_refl _
    | succ n ih => unfold left; split <;> omega
  exact this _ _
end
end Go.Proofs.YtibcjbelcplpjaaDoor
