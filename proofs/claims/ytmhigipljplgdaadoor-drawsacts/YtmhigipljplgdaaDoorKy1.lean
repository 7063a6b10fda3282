/-
  How lists of keys that came in as arguments are read. No statement of the seed is proved here.
-/
import Derived.Test.YtmhigipljplgdaaDoorKyM
namespace Go.Proofs.YtmhigipljplgdaaDoor
open Go.ChangeShapes Go.WideShapes Go.ChangeAt Go.RowKit
set_option linter.unusedVariables false

theorem leaf_key {H : Type} {enc : TypeId × Value → H} {W : World} {base m : Nat} {sp : Nat → Bool} {held : Bool} {cs : List Value} {y : DataW H × List MemPlace}
    (h : DataW.trod enc Tryd.prog W base sp held m 32 cs = some y) (hl : cs.length = 32) : ∃ k : List UInt8, cs = bvs k ∧ k.length = 32 := by
  have hc : Tryd.prog.cellsOf 5 = 1 := by kernel_rfl
  obtain ⟨xs, m', _, _, hlen, hxl, hel⟩ := DataW.trod_array Tryd.underlying32 h
  obtain ⟨bs, hbl, hR⟩ := list_of (n := 32) (R := fun i b => cs[i]? = some (bcell b)) (fun i hi => by
    have h1 := hel i hi
    rw [List.getElem?_eq_getElem (by omega)] at h1
    obtain ⟨z, e1, e2, hw⟩ := DataW.trod_int Tryd.underlying5 h1
    rw [hc, Nat.mul_one] at e1
    have h5 := congrArg (fun l : List Value => l[0]?) e1
    simp only [List.getElem?_take, List.getElem?_drop] at h5
    refine ⟨UInt8.ofNat z.toNat, ?_⟩
    unfold bcell
    rw [← zs_byte z hw]
    simpa using h5)
  refine ⟨bs, ?_, hbl⟩
  apply List.ext_getElem
  · rw [hl, bvs_length, hbl]
  · intro i h1 h2
    have hi : i < bs.length := by rw [bvs_length] at h2; exact h2
    have h3 := hR i hi
    rw [List.getElem?_eq_getElem h1] at h3
    rw [Option.some.inj h3]
    simp [bvs]
/-- A slice of keys, told by its cells. -/
theorem leaf_keys {H : Type} {enc : TypeId × Value → H} {W : World} {base m : Nat} {sp : Nat → Bool} {held : Bool} {cs : List Value} {y : DataW H × List MemPlace}
    (h : DataW.trod enc Tryd.prog W base sp held m 22 cs = some y) : ∃ A n c ks, cs = [.slice A n c] ∧ RdK W A n c ks := by
  have hC : Tryd.prog.cellsOf 32 = 32 := by kernel_rfl
  obtain ⟨A, n, c, rfl, hl, hm, hall⟩ := slice_elems Tryd.underlying22 (by omega) h
  rcases Nat.eq_zero_or_pos n with h0 | h0
  · subst h0
    exact ⟨A, 0, c, [], rfl, RdK.empty W A c hm⟩
  · obtain ⟨b, off, rfl, hel⟩ := hall h0
    rw [hC] at hel
    obtain ⟨ks, hkl, hR⟩ := list_of (n := n) (R := fun i k => k.length = 32 ∧ ∀ j, j < 32 → W.cell? ⟨b, off + (i * 32 + j), none⟩ = (bvs k)[j]?) (fun i hi => by
      obtain ⟨cs', m', z, hcl, hcell, htr⟩ := hel i hi
      obtain ⟨k, rfl, hk⟩ := leaf_key htr hcl
      exact ⟨k, hk, hcell⟩)
    have ha : All32 ks := fun k hk => by
      obtain ⟨i, hi⟩ := List.mem_iff_getElem?.1 hk
      obtain ⟨hi1, hi2⟩ := List.getElem?_eq_some_iff.1 hi
      rw [← hi2]
      exact (hR i hi1).1
    refine ⟨_, n, c, ks, rfl, hkl, ha, hl, hm, fun _ => ⟨b, off, rfl, fun j v hv => ?_⟩⟩
    have hj : j < n * 32 := by have := (List.getElem?_eq_some_iff.1 hv).1; rw [bvs_length, kflat_len ha, hkl] at this; exact this
    have hi : j / 32 < ks.length := by omega
    have hr := (hR (j / 32) hi).2 (j % 32) (by omega)
    have hjj : j / 32 * 32 + j % 32 = j := by omega
    rw [hjj] at hr
    rw [hr, ← hv, bvs, bvs, List.getElem?_map, List.getElem?_map]
    congr 1
    have h3 := kflat_get (ks := ks) (j := j / 32) (i := j % 32) ha (List.getElem?_eq_getElem hi) (by omega)
    rw [hjj] at h3
    exact h3.symm
theorem rdk_of_trod {H : Type} {enc : TypeId × Value → H} {W : World} {base b0 : Nat} {sp : Nat → Bool} {held : Bool} {r : Reach} {v : Value} {d : DataW H} {p : List MemPlace}
    (hv : Value.okWide Tryd.prog W r b0 22 v) (h : DataW.Trod enc Tryd.prog W base sp held 22 v d p) : ∃ A n c ks, v = .slice A n c ∧ RdK W A n c ks := by
  obtain ⟨A0, n0, c0, rfl⟩ := okWide_slice Tryd.underlying22 hv
  obtain ⟨fuel, hf⟩ := h
  obtain ⟨A, n, c, ks, e, hr⟩ := leaf_keys hf
  simp only [Value.cells, List.cons.injEq, Value.slice.injEq, and_true] at e
  obtain ⟨rfl, rfl, rfl⟩ := e
  exact ⟨A0, n0, c0, ks, rfl, hr⟩
end Go.Proofs.YtmhigipljplgdaaDoor
