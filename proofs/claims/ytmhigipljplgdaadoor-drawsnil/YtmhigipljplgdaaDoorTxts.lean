/-
  Lists of texts: cells and what they read as; how they come in. No statement of the seed is proved here.
-/
import Derived.Test.YtmhigipljplgdaaDoorChecked
import Derived.Test.YtmhigipljplgdaaDoorRdL
import Derived.Test.YtmhigipljplgdaaDoorMemV
import Derived.Test.YtmhigipljplgdaaDoorLift
namespace Go.Proofs.YtmhigipljplgdaaDoor
open Go.ChangeShapes Go.WideShapes Go.ChangeAt Go.RowKit
set_option linter.unusedVariables false

/-- A cell that holds a text. -/
def TxtV (w : World) (v : Value) (l : List UInt8) : Prop := ∃ A n c, v = .slice A n c ∧ RdB w A n c l
/-- Cells that hold texts. -/
def TxtVs (w : World) (vs : List Value) (ls : List (List UInt8)) : Prop := vs.length = ls.length ∧ ∀ (j : Nat) (v : Value) (l : List UInt8), vs[j]? = some v → ls[j]? = some l → TxtV w v l
section
variable {w w' : World} {A : Option Addr} {n c : Nat} {vs us : List Value} {ls ms : List (List UInt8)} {S : List Nat}
theorem TxtVs.keptNew (h : TxtVs w vs ls) (hk : Kept S w w') (hS : ∀ k, k ∈ S → w.heap.size ≤ k) : TxtVs w' vs ls :=
  ⟨h.1, fun j v l hv hl => by
    obtain ⟨A, n, c, e, hr⟩ := h.2 j v l hv hl
    exact ⟨A, n, c, e, hr.keptNew hk hS⟩⟩
theorem TxtVs.kept0 (h : TxtVs w vs ls) (hk : Kept [] w w') : TxtVs w' vs ls := h.keptNew hk (by simp)
theorem TxtVs.append (h : TxtVs w vs ls) (k : TxtVs w us ms) : TxtVs w (vs ++ us) (ls ++ ms) :=
  ⟨by rw [List.length_append, List.length_append, h.1, k.1], fun j v l hv hl => by
    rw [List.getElem?_append] at hv hl
    have := h.1
    split at hv
    · rw [if_pos (by omega)] at hl
      exact h.2 j v l hv hl
    · rw [if_neg (by omega), ← this] at hl
      exact k.2 _ v l hv hl⟩
theorem TxtVs.take (h : TxtVs w vs ls) (k : Nat) : TxtVs w (vs.take k) (ls.take k) :=
  ⟨by rw [List.length_take, List.length_take, h.1], fun j v l hv hl => by
    rw [List.getElem?_take] at hv hl
    split at hv
    · rename_i hj
      rw [if_pos hj] at hl
      exact h.2 j v l hv hl
    · cases hv⟩
theorem TxtVs.drop (h : TxtVs w vs ls) (k : Nat) : TxtVs w (vs.drop k) (ls.drop k) :=
  ⟨by rw [List.length_drop, List.length_drop, h.1], fun j v l hv hl => by
    rw [List.getElem?_drop] at hv hl
    exact h.2 _ v l hv hl⟩
theorem TxtVs.one {v : Value} {l : List UInt8} (h : TxtV w v l) : TxtVs w [v] [l] :=
  ⟨rfl, fun j x y hv hl => by
    rcases j with _ | j
    · simp at hv hl
      subst hv hl
      exact h
    · simp at hv⟩
theorem TxtVs.cells (h : TxtVs w vs ls) : ∀ u ∈ vs, u.oneCell' = true := by
  intro u hu
  obtain ⟨j, hj⟩ := List.mem_iff_getElem?.1 hu
  have hl := h.1
  have hjl : j < ls.length := by have := (List.getElem?_eq_some_iff.1 hj).1; omega
  obtain ⟨A, n, c, rfl, _⟩ := h.2 j u _ hj (List.getElem?_eq_getElem hjl)
  rfl
theorem RdL.vals (h : RdL w A n c ls) : ∃ vs, RdV w A n c vs ∧ TxtVs w vs ls := by
  have hl := h.len
  rcases Nat.eq_zero_or_pos n with h0 | h0
  · subst h0
    have : ls = [] := List.eq_nil_of_length_eq_zero hl
    subst this
    exact ⟨[], ⟨rfl, h.cap, h.most, fun hp => absurd hp (by omega)⟩, rfl, fun j v l hv => by simp at hv⟩
  · obtain ⟨b, off, e, hb, hc⟩ := h.cells h0
    obtain ⟨vs, hvl, hv⟩ := list_of (n := n) (R := fun j v => w.cell? ⟨b, off + j, none⟩ = some v ∧ ∀ l, ls[j]? = some l → TxtV w v l) (fun i hi => by
      obtain ⟨Aj, nj, cj, h1, h2⟩ := hc i (by omega)
      refine ⟨.slice Aj nj cj, h1, fun l hl => ⟨Aj, nj, cj, rfl, ?_⟩⟩
      rw [List.getElem?_eq_getElem (by omega)] at hl
      injection hl with hl
      rw [← hl]; exact h2)
    refine ⟨vs, ⟨hvl, h.cap, h.most, fun _ => ⟨b, off, e, fun j hj => (hv j hj).1⟩⟩, by omega, fun j v l h1 h2 => ?_⟩
    obtain ⟨hj, rfl⟩ := List.getElem?_eq_some_iff.1 h1
    exact (hv j hj).2 l h2
theorem RdL.of_vals (h : RdV w A n c vs) (ht : TxtVs w vs ls) : RdL w A n c ls := by
  have hl := h.len
  have h2 := ht.1
  refine ⟨by omega, h.cap, h.most, fun hp => ?_⟩
  obtain ⟨b, off, e, hb, hc⟩ := h.at_ hp
  refine ⟨b, off, e, hb, fun j hj => ?_⟩
  obtain ⟨Aj, nj, cj, e1, hr⟩ := ht.2 j vs[j] ls[j] (List.getElem?_eq_getElem (by omega)) (List.getElem?_eq_getElem hj)
  exact ⟨Aj, nj, cj, by rw [hc j (by omega), e1], hr⟩
end

set_option maxRecDepth 100000 in
theorem rdl_of_trod {H : Type} {enc : TypeId × Value → H} {W : World} {base b0 : Nat} {sp : Nat → Bool} {held : Bool} {r : Reach} {v : Value} {d : DataW H} {p : List MemPlace}
    (hv : Value.okWide Tryd.prog W r b0 64 v) (h : DataW.Trod enc Tryd.prog W base sp held 64 v d p) : ∃ A n c ls, v = .slice A n c ∧ RdL W A n c ls := by
  obtain ⟨A0, n0, c0, rfl⟩ := okWide_slice Tryd.underlying64 hv
  have hC : Tryd.prog.cellsOf 53 = 1 := by kernel_rfl
  have hC5 : Tryd.prog.cellsOf 5 = 1 := by kernel_rfl
  obtain ⟨fuel, hf⟩ := h
  obtain ⟨A, len, cap, hcs, hl, hm, hall⟩ := slice_elems Tryd.underlying64 (by omega) hf
  simp [Value.cells] at hcs
  obtain ⟨rfl, rfl, rfl⟩ := hcs
  rcases Nat.eq_zero_or_pos n0 with h0 | h0
  · subst h0
    exact ⟨A0, 0, c0, [], rfl, rfl, hl, hm, fun hp => absurd hp (by omega)⟩
  · obtain ⟨b, off, rfl, hel⟩ := hall h0
    rw [hC] at hel
    obtain ⟨ls, hll, hR⟩ := list_of (n := n0) (R := fun i l => ∃ Aj nj cj, W.cell? ⟨b, off + i, none⟩ = some (.slice Aj nj cj) ∧ RdB W Aj nj cj l) (fun i hi => by
      obtain ⟨cs, m, z, hcl, hcell, htr⟩ := hel i hi
      obtain ⟨Aj, nj, cj, bs, hcs, hrb⟩ := leaf_bytes Tryd.underlying53 Tryd.underlying5 hC5 htr
      subst hcs
      have h1 := hcell 0 (by omega)
      rw [Nat.mul_one, Nat.add_zero] at h1
      exact ⟨bs, Aj, nj, cj, h1, hrb⟩)
    obtain ⟨Aj, nj, cj, h1, _⟩ := hR 0 (by omega)
    exact ⟨_, n0, c0, ls, rfl, hll, hl, hm, fun _ => ⟨b, off, rfl, World.block_lt_of_cell? W _ h1, fun j hj => hR j hj⟩⟩
end Go.Proofs.YtmhigipljplgdaaDoor
