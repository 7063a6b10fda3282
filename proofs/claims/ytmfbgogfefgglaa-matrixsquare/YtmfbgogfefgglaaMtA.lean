/-
  Plain mathematics of layer 8: rows cleared by others, in the program's way and in the document's; what both tell. Nothing of the program here.
-/
import Derived.Test.YtmfbgogfefgglaaLinC
namespace Go.Proofs.Ytmfbgogfefgglaa
set_option linter.unusedVariables false
section
variable {F : Type} [Fld F]
open Fld

/-- The rows u are made of the rows v. -/
def Spn (n K : Nat) (u v : Nat → Nat → F) : Prop := ∃ A : Nat → Nat → F, ∀ i, i < n → ∀ j, j < K → u i j = fsm n (fun l => A i l * v l j)
theorem Spn.refl (n K : Nat) (u : Nat → Nat → F) : Spn n K u u := ⟨un, fun i hi j hj => (mm_un_left u hi j).symm⟩
theorem Spn.trans {n K : Nat} {u v x : Nat → Nat → F} (h : Spn n K u v) (k : Spn n K v x) : Spn n K u x := by
  obtain ⟨A, hA⟩ := h
  obtain ⟨B, hB⟩ := k
  exact ⟨_, span_trans hA hB⟩
theorem Spn.of_two {n K r : Nat} {u v : Nat → Nat → F} (x y : Nat → F) (s : Nat → Nat) (hr : r < n) (hs : ∀ i, i < n → s i < n) (h : ∀ i, i < n → ∀ j, j < K → u i j = x i * v (s i) j + y i * v r j) : Spn n K u v :=
  ⟨fun i l => x i * un (s i) l + y i * un r l, fun i hi j hj => by
    rw [h i hi j hj]
    have e : fsm n (fun l => (x i * un (s i) l + y i * un r l) * v l j) = fsm n (fun l => x i * un (s i) l * v l j + y i * un r l * v l j) := sm_congr fun l _ => f_add_mul _ _ _
    rw [e, sm_add, sm_one (hs i hi) (fun l _ hl => by unfold un; rw [if_neg (fun e => hl e.symm), f_mul_zero, f_zero_mul]), sm_one hr (fun l _ hl => by unfold un; rw [if_neg (fun e => hl e.symm), f_mul_zero, f_zero_mul])]
    unfold un
    rw [if_pos rfl, if_pos rfl, mul_one, mul_one]⟩
theorem Spn.congr {n K : Nat} {u v u' : Nat → Nat → F} (h : Spn n K u v) (e : ∀ i, i < n → ∀ j, j < K → u' i j = u i j) : Spn n K u' v := by
  obtain ⟨A, hA⟩ := h
  exact ⟨A, fun i hi j hj => by rw [e i hi j hj]; exact hA i hi j hj⟩
theorem sm_cut {r n : Nat} {f : Nat → F} (hr : r ≤ n) (h : ∀ i, r ≤ i → i < n → f i = 0) : fsm n f = fsm r f := by
  induction n with
  | zero => obtain rfl : r = 0 := by omega
            rfl
  | succ n ih =>
    by_cases e : r = n + 1
    · rw [e]
    · unfold fsm
      rw [ih (by omega) (fun i h1 h2 => h i h1 (by omega)), h n (by omega) (by omega), add_zero]
      cases r <;> rfl
theorem IsRank.congr {n m r : Nat} {a a' : Nat → Nat → F} (h : IsRank n m a r) (e : ∀ i, i < m → ∀ j, j < n → a' i j = a i j) : IsRank n m a' r := by
  obtain ⟨b, A, B, hi, hA, hB⟩ := h
  refine ⟨b, A, B, hi, fun i hi j hj => ?_, fun i hi j hj => ?_⟩
  · rw [hA i hi j hj]; exact sm_congr fun k hk => by rw [e k hk j hj]
  · rw [e i hi j hj]; exact hB i hi j hj

/-- The rows r and q exchanged. -/
def swi (r q i : Nat) : Nat := if i = r then q else if i = q then r else i
theorem swi_swi (r q i : Nat) : swi r q (swi r q i) = i := by unfold swi; (repeat' split) <;> omega
theorem swi_lt {r q i n : Nat} (hr : r < n) (hq : q < n) (hi : i < n) : swi r q i < n := by unfold swi; (repeat' split) <;> omega
/-- Row r has 1 in column c, all others 0. -/
def lead1 (m : Nat → Nat → F) (r c i j : Nat) : F := if i = r then inv (m r c) * m r j else m i j + m i c * (inv (m r c) * m r j)
/-- The columns up to C are done, r rows lead one each. -/
def Gst (n K C : Nat) (m0 m : Nat → Nat → F) (r : Nat) : Prop := ∃ p : Nat → Nat,
  r ≤ n ∧ Spn n K m m0 ∧ Spn n K m0 m ∧ (∀ s, s < r → p s < C) ∧ (∀ s t, s < t → t < r → p s < p t) ∧ (∀ i, i < n → ∀ s, s < r → m i (p s) = un i s) ∧ (∀ i, r ≤ i → i < n → ∀ j, j < C → m i j = 0)
theorem Gst.zero (n K : Nat) (m : Nat → Nat → F) : Gst n K 0 m m 0 :=
  ⟨fun _ => 0, by omega, Spn.refl _ _ _, Spn.refl _ _ _, fun s h => by omega, fun s t h1 h2 => by omega, fun i _ s h => by omega, fun i _ _ j h => by omega⟩
theorem Gst.le {n K C r : Nat} {m0 m : Nat → Nat → F} (h : Gst n K C m0 m r) : r ≤ n := by obtain ⟨p, h1, _⟩ := h; exact h1
theorem Gst.skip {n K C r : Nat} {m0 m : Nat → Nat → F} (h : Gst n K C m0 m r) (hz : ∀ i, r ≤ i → i < n → m i C = 0) : Gst n K (C + 1) m0 m r := by
  obtain ⟨p, h1, h2, h3, h4, h5, h6, h7⟩ := h
  refine ⟨p, h1, h2, h3, fun s hs => by have := h4 s hs; omega, h5, h6, fun i hi hn j hj => ?_⟩
  by_cases e : j = C
  · rw [e]; exact hz i hi hn
  · exact h7 i hi hn j (by omega)
theorem un_self (i : Nat) : (un i i : F) = 1 := if_pos rfl
theorem un_ne {i j : Nat} (h : i ≠ j) : (un i j : F) = 0 := if_neg h
theorem f_inv_mul {x : F} (h : x ≠ 0) : inv x * x = 1 := by rw [mul_comm]; exact mul_inv x h
theorem lead1_spn {n K r c : Nat} {m : Nat → Nat → F} (hr : r < n) (hc : m r c ≠ 0) : Spn n K (lead1 m r c) m ∧ Spn n K m (lead1 m r c) := by
  constructor
  · refine Spn.of_two (fun i => if i = r then inv (m r c) else 1) (fun i => if i = r then 0 else m i c * inv (m r c)) (fun i => i) hr (fun i h => h) (fun i hi j hj => ?_)
    unfold lead1
    by_cases e : i = r
    · rw [if_pos e, if_pos e, if_pos e, f_zero_mul, add_zero, e]
    · rw [if_neg e, if_neg e, if_neg e, f_one_mul, mul_assoc]
  · refine Spn.of_two (fun i => if i = r then m r c else 1) (fun i => if i = r then 0 else m i c) (fun i => i) hr (fun i h => h) (fun i hi j hj => ?_)
    unfold lead1
    by_cases e : i = r
    · simp only [if_pos e]
      rw [f_zero_mul, add_zero, ← mul_assoc, mul_inv _ hc, f_one_mul, e]
    · simp only [if_neg e, if_pos]
      rw [f_one_mul, add_assoc, add_self, add_zero]
theorem Gst.step {n K C r : Nat} {m0 m : Nat → Nat → F} (h : Gst n K C m0 m r) (q : Nat) (hq : r ≤ q) (hqn : q < n) (hne : m q C ≠ 0) :
    Gst n K (C + 1) m0 (lead1 (fun i => m (swi r q i)) r C) (r + 1) := by
  obtain ⟨p, h1, h2, h3, h4, h5, h6, h7⟩ := h
  have hrn : r < n := by omega
  have hsr : swi r q r = q := by unfold swi; rw [if_pos rfl]
  have s1 : Spn n K (fun i => m (swi r q i)) m := Spn.of_two (fun _ => 1) (fun _ => 0) (swi r q) hrn (fun i hi => swi_lt hrn hqn hi) (fun i hi j hj => by rw [f_one_mul, f_zero_mul, add_zero])
  have s2 : Spn n K m (fun i => m (swi r q i)) := Spn.of_two (fun _ => 1) (fun _ => 0) (swi r q) hrn (fun i hi => swi_lt hrn hqn hi) (fun i hi j hj => by rw [f_one_mul, f_zero_mul, add_zero, swi_swi])
  have hge : ∀ i, r ≤ i → r ≤ swi r q i := by intro i hi; unfold swi; (repeat' split) <;> omega
  have hlt : ∀ i, i < r → swi r q i = i := by intro i hi; unfold swi; (repeat' split) <;> omega
  generalize hx : (fun i => m (swi r q i)) = x at *
  have hxe : ∀ i j, x i j = m (swi r q i) j := fun i j => by rw [← hx]
  have hc : x r C ≠ 0 := by rw [hxe, hsr]; exact hne
  obtain ⟨l1, l2⟩ := lead1_spn (n := n) (K := K) (m := x) hrn hc
  have hz : ∀ j, j < C → x r j = 0 := fun j hj => by rw [hxe, hsr]; exact h7 q hq hqn j hj
  have hz7 : ∀ i, r ≤ i → i < n → ∀ j, j < C → x i j = 0 := fun i hi hn j hj => by rw [hxe]; exact h7 _ (hge i hi) (swi_lt hrn hqn hn) j hj
  have hz6 : ∀ i, i < r → ∀ s, s < r → x i (p s) = un i s := fun i hi s hs => by rw [hxe, hlt i hi]; exact h6 i (by omega) s hs
  refine ⟨fun s => if s < r then p s else C, by omega, (l1.trans s1).trans h2, h3.trans (s2.trans l2), fun s hs => ?_, fun s t hst ht => ?_, fun i hi s hs => ?_, fun i hi hn j hj => ?_⟩
  · show (if s < r then p s else C) < C + 1
    split
    · rename_i e; have := h4 s e; omega
    · omega
  · show (if s < r then p s else C) < (if t < r then p t else C)
    rw [if_pos (by omega)]
    split
    · rename_i e; exact h5 s t hst e
    · exact h4 s (by omega)
  · show lead1 x r C i (if s < r then p s else C) = un i s
    unfold lead1
    by_cases e : s < r
    · rw [if_pos e, hz _ (h4 s e), f_mul_zero, f_mul_zero, add_zero]
      by_cases ei : i = r
      · rw [if_pos ei, un_ne (by omega)]
      · rw [if_neg ei]
        by_cases ej : i < r
        · exact hz6 i ej s e
        · rw [hz7 i (by omega) hi _ (h4 s e), un_ne (by omega)]
    · obtain rfl : s = r := by omega
      rw [if_neg e]
      by_cases ei : i = s
      · rw [if_pos ei, ei, un_self]; exact f_inv_mul hc
      · rw [if_neg ei, f_inv_mul hc, mul_one, add_self, un_ne ei]
  · unfold lead1
    have ei : i ≠ r := by omega
    rw [if_neg ei]
    by_cases ej : j = C
    · subst ej
      rw [f_inv_mul hc, mul_one, add_self]
    · rw [hz j (by omega), f_mul_zero, f_mul_zero, add_zero]
      exact hz7 i (by omega) hn j (by omega)
theorem Gst.rank {n K C r : Nat} {m0 m : Nat → Nat → F} (h : Gst n K C m0 m r) (hC : C ≤ K) : IsRank C n m0 r := by
  obtain ⟨p, h1, ⟨A, h2⟩, ⟨B, h3⟩, h4, h5, h6, h7⟩ := h
  refine ⟨m, A, B, fun c hc s hs => ?_, fun i hi j hj => h2 i (by omega) j (by omega), fun i hi j hj => ?_⟩
  · have h8 := hc (p s) (h4 s hs)
    rw [sm_one hs (fun i hi hne => by rw [h6 i (by omega) s hs, un_ne hne, f_mul_zero]), h6 s (by omega) s hs, un_self, mul_one] at h8
    exact h8
  · rw [h3 i hi j (by omega)]
    exact sm_cut h1 (fun l hl hn => by rw [h7 l hl hn j hj, f_mul_zero])
theorem inc_id {n : Nat} {p : Nat → Nat} (h4 : ∀ s, s < n → p s < n) (h5 : ∀ s t, s < t → t < n → p s < p t) (s : Nat) (hs : s < n) : p s = s := by
  have h1 : ∀ s, s < n → s ≤ p s := by
    intro s
    induction s with
    | zero => intro _; omega
    | succ s ih => intro h; have := ih (by omega); have := h5 s (s + 1) (by omega) h; omega
  have h2 : ∀ d, s + d < n → p s + d ≤ p (s + d) := by
    intro d
    induction d with
    | zero => intro _; exact Nat.le_refl _
    | succ d ih => intro h; have := ih (by omega); have := h5 (s + d) (s + (d + 1)) (by omega) h; omega
  have h3 := h2 (n - 1 - s) (by omega)
  have h6 := h4 (s + (n - 1 - s)) (by omega)
  have h7 := h1 s hs
  omega
/-- What made the unit of the rows made the inverse of the unit beside them. -/
theorem Gst.inverse {n : Nat} {a m0 m : Nat → Nat → F} (h : Gst n (2 * n) n m0 m n) (ha : ∀ i, i < n → ∀ j, j < n → m0 i j = a i j) (hu : ∀ i, i < n → ∀ j, j < n → m0 i (n + j) = un i j) :
    ∀ i, i < n → ∀ j, j < n → mm n (fun i j => m i (n + j)) a i j = un i j := by
  obtain ⟨p, h1, ⟨A, h2⟩, _, h4, h5, h6, h7⟩ := h
  intro i hi j hj
  have e1 : ∀ l, l < n → m i (n + l) = A i l := fun l hl => by
    rw [h2 i hi (n + l) (by omega), sm_congr (g := fun k => A i k * un k l) (fun k hk => by rw [hu k hk l hl])]
    exact mm_un_right A i hl
  show fsm n (fun k => m i (n + k) * a k j) = _
  rw [sm_congr (g := fun k => A i k * m0 k j) (fun k hk => by rw [e1 k hk, ha k hk j hj]), ← h2 i hi j (by omega)]
  have := h6 i hi j hj
  rwa [inc_id h4 h5 j hj] at this

/-- The document's way: the rows up to i are done, r of them are not nothing. -/
def Rst (n K i : Nat) (m0 m : Nat → Nat → F) (r : Nat) : Prop := ∃ s q : Nat → Nat,
  r ≤ i ∧ Spn n K m m0 ∧ Spn n K m0 m ∧ (∀ t, t < r → s t < i ∧ q t < K ∧ m (s t) (q t) ≠ 0) ∧ (∀ t u, t < u → u < r → s t < s u) ∧ (∀ t, t < r → ∀ k, s t < k → k < n → m k (q t) = 0) ∧
  (∀ (f : Nat → F) j, j < K → fsm i (fun l => f l * m l j) = fsm r (fun t => f (s t) * m (s t) j))
theorem Rst.zero (n K : Nat) (m : Nat → Nat → F) : Rst n K 0 m m 0 :=
  ⟨fun _ => 0, fun _ => 0, by omega, Spn.refl _ _ _, Spn.refl _ _ _, fun s h => by omega, fun s t h1 h2 => by omega, fun i h => by omega, fun f j h => rfl⟩
theorem Rst.skip {n K i r : Nat} {m0 m : Nat → Nat → F} (h : Rst n K i m0 m r) (hz : ∀ j, j < K → m i j = 0) : Rst n K (i + 1) m0 m r := by
  obtain ⟨s, q, h1, h2, h3, h4, h5, h6, h7⟩ := h
  refine ⟨s, q, by omega, h2, h3, fun t ht => ⟨by have := (h4 t ht).1; omega, (h4 t ht).2⟩, h5, h6, fun f j hj => ?_⟩
  show fsm i _ + f i * m i j = _
  rw [hz j hj, f_mul_zero, add_zero]
  exact h7 f j hj
/-- The rows behind i cleared in column c. -/
def clr (m : Nat → Nat → F) (i c k j : Nat) : F := if i < k then m k j + m k c * inv (m i c) * m i j else m k j
theorem Rst.step {n K i r : Nat} {m0 m : Nat → Nat → F} (h : Rst n K i m0 m r) (hi : i < n) (c : Nat) (hc : c < K) (hne : m i c ≠ 0) : Rst n K (i + 1) m0 (clr m i c) (r + 1) := by
  obtain ⟨s, q, h1, h2, h3, h4, h5, h6, h7⟩ := h
  have ci : ∀ j, clr m i c i j = m i j := fun j => by unfold clr; rw [if_neg (by omega)]
  have cl : ∀ k j, k ≤ i → clr m i c k j = m k j := fun k j hk => by unfold clr; rw [if_neg (by omega)]
  have l1 : Spn n K (clr m i c) m := Spn.of_two (fun _ => 1) (fun k => if i < k then m k c * inv (m i c) else 0) (fun k => k) hi (fun k h => h) (fun k hk j hj => by
    unfold clr
    by_cases e : i < k
    · rw [if_pos e, if_pos e, f_one_mul]
    · rw [if_neg e, if_neg e, f_one_mul, f_zero_mul, add_zero])
  have l2 : Spn n K m (clr m i c) := Spn.of_two (fun _ => 1) (fun k => if i < k then m k c * inv (m i c) else 0) (fun k => k) hi (fun k h => h) (fun k hk j hj => by
    rw [ci]
    unfold clr
    by_cases e : i < k
    · rw [if_pos e, if_pos e, f_one_mul, add_assoc, add_self, add_zero]
    · rw [if_neg e, if_neg e, f_one_mul, f_zero_mul, add_zero])
  have hs : ∀ t, t < r → s t < i := fun t ht => (h4 t ht).1
  refine ⟨fun t => if t < r then s t else i, fun t => if t < r then q t else c, by omega, l1.trans h2, h3.trans l2, fun t ht => ?_, fun t u htu hu => ?_, fun t ht k hk hkn => ?_, fun f j hj => ?_⟩
  · simp only []
    by_cases e : t < r
    · rw [if_pos e, if_pos e, cl _ _ (by have := hs t e; omega)]
      exact ⟨by have := hs t e; omega, (h4 t e).2⟩
    · rw [if_neg e, if_neg e, ci]
      exact ⟨by omega, hc, hne⟩
  · simp only []
    rw [if_pos (by omega)]
    split
    · rename_i e; exact h5 t u htu e
    · exact hs t (by omega)
  · simp only [] at hk ⊢
    by_cases e : t < r
    · rw [if_pos e] at hk ⊢
      unfold clr
      split
      · rw [h6 t e k hk hkn, h6 t e i (hs t e) hi, f_mul_zero, add_zero]
      · exact h6 t e k hk hkn
    · rw [if_neg e] at hk ⊢
      unfold clr
      rw [if_pos hk, mul_assoc, f_inv_mul hne, mul_one, add_self]
  · show fsm i (fun l => f l * clr m i c l j) + f i * clr m i c i j = fsm r (fun t => f (if t < r then s t else i) * clr m i c (if t < r then s t else i) j) + f (if r < r then s r else i) * clr m i c (if r < r then s r else i) j
    rw [if_neg (by omega), sm_congr (g := fun l => f l * m l j) (fun l hl => by rw [cl l j (by omega)]), h7 f j hj]
    congr 1
    exact sm_congr fun t ht => by rw [if_pos ht, cl _ _ (by have := hs t ht; omega)]
theorem Rst.rank {n K r : Nat} {m0 m : Nat → Nat → F} (h : Rst n K n m0 m r) : IsRank K n m0 r := by
  obtain ⟨s, q, h1, ⟨A, h2⟩, ⟨B, h3⟩, h4, h5, h6, h7⟩ := h
  refine ⟨fun t j => m (s t) j, fun t l => A (s t) l, fun i t => B i (s t), fun c hc => ?_, fun t ht j hj => h2 (s t) (h4 t ht).1 j hj, fun i hi j hj => ?_⟩
  · have H : ∀ N t, t < N → t < r → c t = 0 := by
      intro N
      induction N with
      | zero => intro t h; omega
      | succ N ih =>
        intro t htN ht
        have h8 := hc (q t) (h4 t ht).2.1
        rw [sm_one ht (fun u hu hne => by
          by_cases e : u < t
          · rw [ih u (by omega) hu, f_zero_mul]
          · show c u * m (s u) (q t) = 0
            rw [h6 t ht (s u) (h5 t u (by omega) hu) (h4 u hu).1, f_mul_zero])] at h8
        rw [mul_comm] at h8
        exact f_zero_of_mul h8 (h4 t ht).2.2
    intro t ht
    exact H (t + 1) t (by omega) ht
  · rw [h3 i hi j hj]
    exact h7 (B i) j hj
end
end Go.Proofs.Ytmfbgogfefgglaa
