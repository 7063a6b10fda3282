/-
  Slices of texts that are cut. No statement of the seed is proved here.
-/
import Derived.Test.YtmoelakdfgggfaaRdL
import Derived.Test.YtmoelakdfgggfaaCuts
namespace Go.Proofs.Ytmoelakdfgggfaa
open Go.RowKit
set_option linter.unusedVariables false

/-- One text of a slice of texts, cut out. -/
theorem RdL.cutOne {P : Program} {w : World} {A : Option Addr} {n c : Nat} {ls : List (List UInt8)} (h : RdL w A n c ls) (t e : TypeId) (ht : P.underlying t = some (.slice e)) (hs : (P.info? e).map (·.size) = some 1) (k : Nat) (l : List UInt8) (y z : Int) (hy : y = (k : Int)) (hz : z = ((k + 1 : Nat) : Int)) (hk : k < n) (hl : ls[k]? = some l) :
    ∃ A', RdL w A' 1 (c - k) [l] ∧ ∀ W, (Instr.slice t (.slice A n c) (some (.int .i64 y)) (some (.int .i64 z)) none).run P W = .ok (.slice A' 1 (c - k)) W := by
  subst hy hz
  have hcap := h.cap
  have hmost := h.most
  have hlen := h.len
  refine ⟨if c = k then A else A.map (·.add k), ⟨rfl, by omega, by omega, fun _ => ?_⟩, fun W => ?_⟩
  · obtain ⟨b, off, rfl, hb, hc⟩ := h.cells (by omega)
    rw [if_neg (by omega)]
    have h2 : (⟨b, off, none⟩ : Addr).add k = ⟨b, off + k, none⟩ := by unfold Addr.add; split <;> simp_all
    refine ⟨b, off + k, by simp [h2], hb, fun j hj => ?_⟩
    have hj0 : j = 0 := by simpa using hj
    subst hj0
    obtain ⟨Aj, nj, cj, h3, h4⟩ := hc k (by omega)
    have : ls[k]'(by omega) = l := by
      rw [List.getElem?_eq_getElem (by omega)] at hl
      injection hl
    rw [this] at h4
    exact ⟨Aj, nj, cj, h3, h4⟩
  · have he : P.elem t = e := by simp [Program.elem, ht]
    rw [run_slice_lh (P := P) W t A n c (by rw [he]; exact ht) .i64 .i64 (k : Int) ((k + 1 : Nat) : Int) (by omega) (by omega) (by omega), size_of_elem t e ht hs W]
    simp [sliced, Result.andThen]
/-- Its first texts. -/
theorem RdL.first {w : World} {A : Option Addr} {n c : Nat} {ls : List (List UInt8)} (h : RdL w A n c ls) (k : Nat) (hk : k ≤ n) : RdL w A k c (ls.take k) := by
  have hl := h.len
  have hc := h.cap
  refine ⟨by rw [List.length_take]; omega, by omega, h.most, fun hp => ?_⟩
  obtain ⟨b, off, e, hb, hcell⟩ := h.cells (by omega)
  refine ⟨b, off, e, hb, fun j hj => ?_⟩
  rw [List.length_take] at hj
  rw [List.getElem_take]
  exact hcell j (by omega)
end Go.Proofs.Ytmoelakdfgggfaa
