/-
  How a pair of ints that came in as an argument is read. No statement of the seed is proved here.
-/
import Derived.Test.YtibcjbelcplpjaaDoorChecked
import Derived.Test.YtibcjbelcplpjaaDoorArr
namespace Go.Proofs.YtibcjbelcplpjaaDoor
open Go.ChangeShapes Go.WideShapes Go.ChangeAt Go.RowKit
set_option linter.unusedVariables false

set_option maxRecDepth 100000 in
theorem pair_of_trod {H : Type} {enc : TypeId × Value → H} {W : World} {base b0 : Nat} {sp : Nat → Bool} {held : Bool} {r : Reach} {v : Value} {d : DataW H} {p : List MemPlace}
    (hv : Value.okWide Tryd.prog W r b0 47 v) (h : DataW.Trod enc Tryd.prog W base sp held 47 v d p) : ∃ x y : Int, v = .agg #[.int .i64 x, .int .i64 y] ∧ (Lit.int .i64 x).wf = true ∧ (Lit.int .i64 y).wf = true := by
  have hc : Tryd.prog.cellsOf 47 = 2 := by kernel_rfl
  have hi : Tryd.prog.cellsOf 3 = 1 := by kernel_rfl
  obtain ⟨cs, rfl, hsz⟩ := okWide_array Tryd.underlying47 hv
  obtain ⟨fuel, hf⟩ := h
  obtain ⟨xs, m, _, _, hlen, hxl, hel⟩ := DataW.trod_array Tryd.underlying47 hf
  have one : ∀ i, i < 2 → ∃ z, cs.toList[i]? = some (.int .i64 z) ∧ (Lit.int .i64 z).wf = true := fun i hi2 => by
    have h1 := hel i hi2
    rw [List.getElem?_eq_getElem (by omega)] at h1
    obtain ⟨z, e1, e2, hw⟩ := DataW.trod_int Tryd.underlying3 h1
    rw [hi, Nat.mul_one] at e1
    have h4 : (cs.toList.drop i).take 1 = [.int .i64 z] := e1
    have h5 := congrArg (fun l : List Value => l[0]?) h4
    simp only [List.getElem?_take, List.getElem?_drop] at h5
    exact ⟨z, by simpa using h5, hw⟩
  obtain ⟨x, gx, wx⟩ := one 0 (by omega)
  obtain ⟨y, gy, wy⟩ := one 1 (by omega)
  refine ⟨x, y, ?_, wx, wy⟩
  congr 1
  rw [hc] at hsz
  apply Array.ext'
  apply List.ext_getElem?
  intro i
  match i with
  | 0 => rw [gx]; rfl
  | 1 => rw [gy]; rfl
  | i + 2 => rw [List.getElem?_eq_none (by rw [Array.length_toList, hsz]; omega), List.getElem?_eq_none (by simp)]
end Go.Proofs.YtibcjbelcplpjaaDoor
