/-
  How an array of bytes that came in as an argument is read. No statement of the seed is proved here.
-/
import Derived.Test.YtibcjbelcplpjaaDoorPd
namespace Go.Proofs.YtibcjbelcplpjaaDoor
open Go.ChangeShapes Go.WideShapes Go.ChangeAt Go.RowKit
set_option linter.unusedVariables false

theorem okWide_array {P : Program} {w : World} {r : Reach} {base : Nat} {t e : TypeId} {n : Nat} {v : Value} (ht : P.underlying t = some (.array n e)) (h : Value.okWide P w r base t v) : ∃ cs, v = .agg cs ∧ cs.size = P.cellsOf t := by
  unfold Value.okWide at h
  simp only [ht] at h
  cases v <;> simp_all
theorem bytes_of_trod {H : Type} {enc : TypeId × Value → H} {P : Program} {W : World} {t e : TypeId} {n base b0 : Nat} {sp : Nat → Bool} {held : Bool} {r : Reach} {v : Value} {d : DataW H} {p : List MemPlace}
    (ht : P.underlying t = some (.array n e)) (he : P.underlying e = some (.int .u8)) (hc : P.cellsOf e = 1) (hn : P.cellsOf t = n)
    (hv : Value.okWide P W r b0 t v) (h : DataW.Trod enc P W base sp held t v d p) : ∃ bs : List UInt8, v = .agg (bvs bs).toArray ∧ bs.length = n := by
  obtain ⟨cs, rfl, hsz⟩ := okWide_array ht hv
  obtain ⟨fuel, hf⟩ := h
  obtain ⟨xs, m, _, _, hlen, hxl, hel⟩ := DataW.trod_array ht hf
  obtain ⟨bs, hbl, hR⟩ := list_of (n := n) (R := fun i b => cs.toList[i]? = some (bcell b)) (fun i hi => by
    have h1 := hel i hi
    rw [List.getElem?_eq_getElem (by omega)] at h1
    obtain ⟨z, e1, e2, hw⟩ := DataW.trod_int he h1
    rw [hc, Nat.mul_one] at e1
    have h4 : (cs.toList.drop i).take 1 = [.int .u8 z] := e1
    have h5 := congrArg (fun l : List Value => l[0]?) h4
    simp only [List.getElem?_take, List.getElem?_drop] at h5
    refine ⟨UInt8.ofNat z.toNat, ?_⟩
    unfold bcell
    rw [← zs_byte z hw]
    simpa using h5)
  refine ⟨bs, ?_, hbl⟩
  congr 1
  apply Array.ext'
  apply List.ext_getElem
  · rw [Array.length_toList, hsz, hn, List.toList_toArray, bvs_length, hbl]
  · intro i h1 h2
    have hi : i < bs.length := by rw [List.toList_toArray, bvs_length] at h2; exact h2
    have h3 := hR i hi
    rw [List.getElem?_eq_getElem h1] at h3
    rw [Option.some.inj h3]
    simp [bvs]
end Go.Proofs.YtibcjbelcplpjaaDoor
