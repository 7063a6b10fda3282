/-
  Plain mathematics of layer 9: a code's rows, pieces as products of matrices, rows cleared with texts beside them. Nothing of the program here.
-/
import Derived.Test.YtpnpimhfakfolaaM8u
import Derived.Test.YtpnpimhfakfolaaGfS
namespace Go.Proofs.Ytpnpimhfakfolaa
set_option linter.unusedVariables false
open Fld

/-- Row i of a code of k. -/
def rsr (k i j : Nat) : GB := if i < k then un i j else cau k (i - k) j
theorem rsr_lt {k i : Nat} (h : i < k) (j : Nat) : rsr k i j = un i j := if_pos h
theorem rsr_ge {k i : Nat} (h : k ≤ i) (j : Nat) : rsr k i j = cau k (i - k) j := if_neg (by omega)
theorem rsr_indep {k n : Nat} (hk : k ≤ n) (hn : n ≤ 256) (sel : Nat → Nat) (hs : ∀ t, t < k → sel t < n) (hd : ∀ t, t < k → ∀ u, u < k → t ≠ u → sel t ≠ sel u) : Indep k k (fun t j => rsr k (sel t) j) := by
  have h := rs_indep (F := GB) (k := k) (N := n) (fun i => ⟨UInt8.ofNat i⟩) sel (fun i hi j hj hne e => by
    have h1 := congrArg (fun g : GB => g.v.toNat) e
    simp only [UInt8.toNat_ofNat'] at h1
    rw [Nat.mod_eq_of_lt (by omega), Nat.mod_eq_of_lt (by omega)] at h1
    exact hne h1) hk hs hd
  have e : (fun t j => rsr k (sel t) j) = fun t j => if sel t < k then un (sel t) j else inv ((⟨UInt8.ofNat (sel t)⟩ : GB) + ⟨UInt8.ofNat j⟩) := by
    funext t j
    unfold rsr
    split
    · rfl
    · rename_i h1
      unfold cau
      rw [Nat.sub_add_cancel (by omega)]
  rw [e]
  exact h
theorem rm_getD {α : Type} {n i : Nat} (f : Nat → α) (d : α) (h : i < n) : (rm n f).getD i d = f i := by
  rw [List.getD_eq_getElem?_getD, rm_get h]; rfl
theorem gcol_ofm {k N : Nat} (a : Nat → GB) (x : Nat → Nat → GB) (c : Nat) (hc : c < N) : ∀ t, t ≤ k → gcol (rm k fun j => (a j).v) (ofm k N x) c t = (fsm t (fun l => a l * x l c)).v
  | 0, _ => rfl
  | t + 1, ht => by
    unfold gcol fsm
    rw [gcol_ofm a x c hc t (by omega), rm_getD _ _ (by omega)]
    unfold ofm
    rw [rm_getD _ _ (by omega), rm_getD _ _ hc]
    rfl
theorem ofm_mem {k N : Nat} {x : Nat → Nat → GB} : ∀ l ∈ ofm k N x, l.length = N := by
  intro l hl
  unfold ofm rm at hl
  simp only [List.mem_map] at hl
  obtain ⟨i, _, rfl⟩ := hl
  exact rm_length _ _
/-- One row of coefficients, and texts. -/
theorem gsum_ofm {k N : Nat} (a : Nat → GB) (x : Nat → Nat → GB) : gsum N (rm k fun j => (a j).v) (ofm k N x) = rm N (fun c => (fsm k (fun l => a l * x l c)).v) := by
  refine rm_ext (gsumN_length ofm_mem _ (by omega)) (fun c hc => ?_)
  have h := gsumN_get (cs := rm k fun j => (a j).v) (n := N) (ls := ofm k N x) ofm_mem c hc (ofm k N x).length (Nat.le_refl _)
  rw [gcol_ofm a x c hc _ (by rw [ofm_length]; omega), ofm_length] at h
  unfold gsum
  rw [ofm_length]
  exact h
theorem one1_ofm (k N : Nat) (x : Nat → Nat → GB) : one1 (ofm k N x) = true := by
  refine one1_yes fun i l hi hl => ?_
  rw [ofm_length] at hi
  have h0 : (ofm k N x).getD 0 [] = rm N (fun c => (x 0 c).v) := by unfold ofm; exact rm_getD _ _ (by omega)
  rw [h0, rm_length]
  exact ofm_mem l (List.mem_of_getElem? hl)
theorem one1_form {ls : List (List UInt8)} {n : Nat} (hl : ls.length = n) (h : one1 ls = true) : ∃ N, N = (ls.getD 0 []).length ∧ ls = ofm n N (ent ls) :=
  ⟨_, rfl, ofm_ent hl (one1_spec h)⟩
theorem ent_ofm {n k : Nat} {m : Nat → Nat → GB} {i j : Nat} (hi : i < n) (hj : j < k) : ent (ofm n k m) i j = m i j := by
  unfold ent ofm
  rw [rm_getD _ _ hi, rm_getD _ _ hj]
theorem ofm_take {n k t : Nat} {m : Nat → Nat → GB} (h : t ≤ n) : (ofm n k m).take t = ofm t k m := by
  refine rm_ext (by rw [List.length_take, ofm_length]; omega) (fun i hi => ?_)
  rw [List.getElem?_take, if_pos hi, ofm_get (by omega)]
/-- The pieces of slices. -/
def pcs (k n N : Nat) (x : Nat → Nat → GB) : List (List UInt8) := ofm n N (mm k (rsr k) x)

/-- The columns up to C are the unit's; texts beside the rows. -/
structure Sst (k N C : Nat) (X m l : Nat → Nat → GB) : Prop where
  le : C ≤ k
  ind : Indep k k m
  cols : ∀ i, i < k → ∀ s, s < C → m i s = un i s
  sol : ∀ i, i < k → ∀ c, c < N → mm k m X i c = l i c
theorem Sst.start {k N : Nat} {X m l : Nat → Nat → GB} (h : Indep k k m) (hs : ∀ i, i < k → ∀ c, c < N → mm k m X i c = l i c) : Sst k N 0 X m l := ⟨by omega, h, fun i _ s hs => by omega, hs⟩
theorem Sst.pivot {k N C : Nat} {X m l : Nat → Nat → GB} (h : Sst k N C X m l) (hC : C < k) : ∃ q, C ≤ q ∧ q < k ∧ m q C ≠ 0 := by
  by_cases hp : ∃ q, C ≤ q ∧ q < k ∧ m q C ≠ 0
  · exact hp
  · refine absurd h.ind (no_pivot hC h.cols fun i h1 h2 => ?_)
    by_cases e : m i C = 0
    · exact e
    · exact absurd ⟨i, h1, h2, e⟩ hp
theorem Sst.done {k N : Nat} {X m l : Nat → Nat → GB} (h : Sst k N k X m l) : ∀ i, i < k → ∀ c, c < N → l i c = X i c := by
  intro i hi c hc
  rw [← h.sol i hi c hc, mm_congr (a' := un) (b' := X) (fun j hj => h.cols i hi j hj) (fun _ _ => rfl), mm_un_left X hi]
/-- The row r is scaled, all others cleared by it: the texts beside them, likewise. -/
def lead2 (m l : Nat → Nat → GB) (r c i j : Nat) : GB := if i = r then inv (m r c) * l r j else l i j + m i c * (inv (m r c) * l r j)
theorem Sst.swap {k N C : Nat} {X m l : Nat → Nat → GB} (h : Sst k N C X m l) {q : Nat} (h1 : C ≤ q) (h2 : q < k) : Sst k N C X (fun i => m (swi C q i)) (fun i => l (swi C q i)) := by
  have hC : C < k := by omega
  refine ⟨h.le, ?_, fun i hi s hs => ?_, fun i hi c hc => h.sol _ (swi_lt hC h2 hi) c hc⟩
  · obtain ⟨A, hA⟩ : Spn k k m (fun i => m (swi C q i)) := Spn.of_two (fun _ => 1) (fun _ => 0) (swi C q) hC (fun i hi => swi_lt hC h2 hi) (fun i hi j hj => by rw [f_one_mul, f_zero_mul, add_zero, swi_swi])
    exact h.ind.of_made hA
  · show m (swi C q i) s = un i s
    rw [h.cols _ (swi_lt hC h2 hi) s hs]
    unfold swi
    by_cases e1 : i = C
    · rw [if_pos e1, un_ne (by omega), un_ne (by omega)]
    · rw [if_neg e1]
      by_cases e2 : i = q
      · rw [if_pos e2, un_ne (by omega), un_ne (by omega)]
      · rw [if_neg e2]
theorem Sst.step {k N C : Nat} {X m l : Nat → Nat → GB} (h : Sst k N C X m l) (hC : C < k) (hne : m C C ≠ 0) : Sst k N (C + 1) X (lead1 m C C) (lead2 m l C C) := by
  refine ⟨by omega, ?_, fun i hi s hs => ?_, fun i hi c hc => ?_⟩
  · obtain ⟨_, A, hA⟩ := lead1_spn (n := k) (K := k) (m := m) hC hne
    exact h.ind.of_made hA
  · unfold lead1
    by_cases e : s = C
    · subst e
      by_cases ei : i = s
      · rw [if_pos ei, ei, un_self]; exact f_inv_mul hne
      · rw [if_neg ei, f_inv_mul hne, mul_one, add_self, un_ne ei]
    · rw [h.cols C hC s (by omega), un_ne (by omega), f_mul_zero]
      by_cases ei : i = C
      · rw [if_pos ei, un_ne (by omega)]
      · rw [if_neg ei, f_mul_zero, add_zero, h.cols i hi s (by omega)]
  · have e0 := h.sol C hC c hc
    unfold mm at e0
    unfold mm lead1 lead2
    by_cases ei : i = C
    · simp only [if_pos ei]
      rw [← e0, ← sm_mul]
      exact sm_congr fun j _ => mul_assoc _ _ _
    · have e1 := h.sol i hi c hc
      unfold mm at e1
      simp only [if_neg ei]
      rw [← e0, ← e1, ← sm_mul, ← sm_mul, ← sm_add]
      refine sm_congr fun j _ => ?_
      rw [f_add_mul, mul_assoc, mul_assoc]
end Go.Proofs.Ytpnpimhfakfolaa
