/-
  How layer 9's arguments are read: a code's k and n, a slice of ints. No statement of the seed is proved here.
-/
import Derived.Test.YtpnpimhfakfolaaRs4
import Derived.Test.YtpnpimhfakfolaaPa
namespace Go.Proofs.Ytpnpimhfakfolaa
open Go.ChangeShapes Go.WideShapes Go.ChangeAt Go.RowKit
set_option linter.unusedVariables false

section
variable {H : Type} {enc : TypeId × Value → H} {W : World} {base b0 : Nat} {sp : Nat → Bool} {held : Bool} {r : Reach} {v : Value} {d : DataW H} {p : List MemPlace}
theorem dim_fields : ∃ fs, Try.prog.underlying 23 = some (.struct fs) ∧ (fs[0]?).map (fun f => (f.type, f.offset)) = some (3, 0) ∧ (fs[1]?).map (fun f => (f.type, f.offset)) = some (3, 1) := ⟨_, Try.underlying23, by kernel_rfl, by kernel_rfl⟩
theorem one_of_take {cs : Array Value} {o : Nat} {x : Value} (h : (cs.toList.drop o).take 1 = [x]) : cs.toList[o]? = some x := by
  have h5 := congrArg (fun l : List Value => l[0]?) h
  simp only [List.getElem?_take, List.getElem?_drop] at h5
  simpa using h5
theorem dim_of_trod (hv : Value.okWide Try.prog W r b0 23 v) (h : DataW.Trod enc Try.prog W base sp held 23 v d p) : ∃ K N : Int, v = .agg #[.int .i64 K, .int .i64 N] := by
  obtain ⟨fs, hf, f0, f1⟩ := dim_fields
  obtain ⟨cs, rfl, hsz⟩ := okWide_struct hf hv
  have hc : Try.prog.cellsOf 23 = 2 := by kernel_rfl
  have hi : Try.prog.cellsOf 3 = 1 := by kernel_rfl
  obtain ⟨fuel, hh⟩ := h
  obtain ⟨m0, z0, t0⟩ := struct_field hf hh 0 3 0 1 f0 hi
  obtain ⟨m1, z1, t1⟩ := struct_field hf hh 1 3 1 1 f1 hi
  obtain ⟨K, e0, _⟩ := leaf_int Try.underlying3 t0
  obtain ⟨N, e1, _⟩ := leaf_int Try.underlying3 t1
  have g0 : cs.toList[0]? = some (.int .i64 K) := one_of_take (cs := cs) e0
  have g1 : cs.toList[1]? = some (.int .i64 N) := one_of_take (cs := cs) e1
  refine ⟨K, N, ?_⟩
  congr 1
  rw [hc] at hsz
  apply Array.ext'
  apply List.ext_getElem?
  intro i
  by_cases h0 : i = 0
  · subst h0; rw [g0]; rfl
  · by_cases h1 : i = 1
    · subst h1; rw [g1]; rfl
    · rw [List.getElem?_eq_none (by rw [Array.length_toList, hsz]; omega), List.getElem?_eq_none (by simp; omega)]
theorem ints_of_trod (hv : Value.okWide Try.prog W r b0 45 v) (h : DataW.Trod enc Try.prog W base sp held 45 v d p) : ∃ A n c f, v = .slice A n c ∧ RdI W A n c f := by
  obtain ⟨A0, n0, c0, rfl⟩ := okWide_slice Try.underlying45 hv
  have hC : Try.prog.cellsOf 3 = 1 := by kernel_rfl
  obtain ⟨fuel, hf⟩ := h
  obtain ⟨A, len, cap, hcs, hl, hm, hall⟩ := slice_elems Try.underlying45 (by omega) hf
  simp [Value.cells] at hcs
  obtain ⟨rfl, rfl, rfl⟩ := hcs
  rcases Nat.eq_zero_or_pos n0 with h0 | h0
  · subst h0
    exact ⟨A0, 0, c0, fun _ => 0, rfl, rm_length _ _, hl, hm, fun hp => absurd hp (by omega)⟩
  · obtain ⟨b, off, rfl, hel⟩ := hall h0
    rw [hC] at hel
    obtain ⟨zs, hzl, hR⟩ := list_of (n := n0) (R := fun i z => W.cell? ⟨b, off + i, none⟩ = some (.int .i64 z)) (fun i hi => by
      obtain ⟨cs, m, z, hcl, hcell, htr⟩ := hel i hi
      obtain ⟨y, hcs, _⟩ := leaf_int Try.underlying3 htr
      subst hcs
      have h1 := hcell 0 (by omega)
      rw [Nat.mul_one, Nat.add_zero] at h1
      exact ⟨y, h1⟩)
    refine ⟨_, n0, c0, fun i => zs.getD i 0, rfl, rm_length _ _, hl, hm, fun _ => ⟨b, off, rfl, fun j hj => ?_⟩⟩
    rw [rm_length] at hj
    rw [hR j (by omega)]
    congr 1
    refine Option.some.inj (Eq.trans ?_ (List.getElem?_eq_getElem (by rw [rm_length]; exact hj)))
    rw [rm_get (f := fun i => Value.int .i64 (zs.getD i 0)) hj, List.getD_eq_getElem?_getD, List.getElem?_eq_getElem (by omega)]
    rfl
end
end Go.Proofs.Ytpnpimhfakfolaa
