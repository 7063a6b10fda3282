/-
  How layer 13's arguments are read: a frame, two ints. No statement of the seed is proved here.
-/
import Derived.Test.YtibcjbelcplpjaaDoorPd
import Derived.Test.YtibcjbelcplpjaaDoorArr
namespace Go.Proofs.YtibcjbelcplpjaaDoor
open Go.ChangeShapes Go.WideShapes Go.ChangeAt Go.RowKit
set_option linter.unusedVariables false

section
variable {H : Type} {enc : TypeId × Value → H} {W : World} {base b0 : Nat} {sp : Nat → Bool} {held : Bool} {r : Reach} {v : Value} {d : DataW H} {p : List MemPlace}
theorem leaf_arr {t e : TypeId} {n m : Nat} {cs : List Value} {y : DataW H × List MemPlace} (ht : Tryd.prog.underlying t = some (.array n e)) (he : Tryd.prog.underlying e = some (.int .u8)) (hc : Tryd.prog.cellsOf e = 1)
    (h : DataW.trod enc Tryd.prog W base sp held m t cs = some y) (hl : cs.length = n) : ∃ k : List UInt8, cs = bvs k ∧ k.length = n := by
  obtain ⟨xs, m', _, _, hlen, hxl, hel⟩ := DataW.trod_array ht h
  obtain ⟨bs, hbl, hR⟩ := list_of (n := n) (R := fun i b => cs[i]? = some (bcell b)) (fun i hi => by
    have h1 := hel i hi
    rw [List.getElem?_eq_getElem (by omega)] at h1
    obtain ⟨z, e1, e2, hw⟩ := DataW.trod_int he h1
    rw [hc, Nat.mul_one] at e1
    have h5 := congrArg (fun l : List Value => l[0]?) e1
    simp only [List.getElem?_take, List.getElem?_drop] at h5
    refine ⟨UInt8.ofNat z.toNat, ?_⟩
    unfold bcell
    rw [← zs_byte z hw]
    simpa using h5)
  refine ⟨bs, ?_, hbl⟩
  apply List.ext_getElem
  · rw [hl, bvs_length, hbl]
  · intro i h1 h2
    have hi : i < bs.length := by rw [bvs_length] at h2; exact h2
    have h3 := hR i hi
    rw [List.getElem?_eq_getElem h1] at h3
    rw [Option.some.inj h3]
    simp [bvs]
theorem one_at {cs : Array Value} {o : Nat} {x : Value} (h : (cs.toList.drop o).take 1 = [x]) : cs.toList[o]? = some x := by
  have h5 := congrArg (fun l : List Value => l[0]?) h
  simp only [List.getElem?_take, List.getElem?_drop] at h5
  simpa using h5
set_option maxRecDepth 100000 in
theorem frame_of_trod (hv : Value.okWide Tryd.prog W r b0 28 v) (h : DataW.Trod enc Tryd.prog W base sp held 28 v d p) : ∃ f A n c, v = .agg (frc f A n c).toArray ∧ FrAt W f A n c := by
  obtain ⟨cs, rfl, hsz⟩ := okWide_struct Tryd.underlying28 hv
  have hc : Tryd.prog.cellsOf 28 = 21 := by kernel_rfl
  have hi : Tryd.prog.cellsOf 3 = 1 := by kernel_rfl
  have hB : Tryd.prog.cellsOf 26 = 1 := by kernel_rfl
  have hId : Tryd.prog.cellsOf 25 = 16 := by kernel_rfl
  have hU : Tryd.prog.cellsOf 5 = 1 := by kernel_rfl
  obtain ⟨fuel, hh⟩ := h
  obtain ⟨m0, y0, t0⟩ := struct_field Tryd.underlying28 hh 0 25 0 16 rfl hId
  obtain ⟨m1, y1, t1⟩ := struct_field Tryd.underlying28 hh 1 3 16 1 rfl hi
  obtain ⟨m2, y2, t2⟩ := struct_field Tryd.underlying28 hh 2 3 17 1 rfl hi
  obtain ⟨m3, y3, t3⟩ := struct_field Tryd.underlying28 hh 3 3 18 1 rfl hi
  obtain ⟨m4, y4, t4⟩ := struct_field Tryd.underlying28 hh 4 3 19 1 rfl hi
  obtain ⟨m5, y5, t5⟩ := struct_field Tryd.underlying28 hh 5 26 20 1 rfl hB
  rw [hc] at hsz
  obtain ⟨o, e0, ho⟩ := leaf_arr Tryd.underlying25 Tryd.underlying5 hU t0 (by rw [List.length_take, List.length_drop]; simp [Value.cells]; omega)
  obtain ⟨x1, e1, w1⟩ := leaf_int Tryd.underlying3 t1
  obtain ⟨x2, e2, w2⟩ := leaf_int Tryd.underlying3 t2
  obtain ⟨x3, e3, w3⟩ := leaf_int Tryd.underlying3 t3
  obtain ⟨x4, e4, w4⟩ := leaf_int Tryd.underlying3 t4
  obtain ⟨A, n, c, bs, e5, hr⟩ := leaf_bytes Tryd.underlying26 Tryd.underlying5 hU t5
  have g1 : cs.toList[16]? = some (.int .i64 x1) := one_at (cs := cs) e1
  have g2 : cs.toList[17]? = some (.int .i64 x2) := one_at (cs := cs) e2
  have g3 : cs.toList[18]? = some (.int .i64 x3) := one_at (cs := cs) e3
  have g4 : cs.toList[19]? = some (.int .i64 x4) := one_at (cs := cs) e4
  have g5 : cs.toList[20]? = some (.slice A n c) := one_at (cs := cs) e5
  have g0 : cs.toList.take 16 = bvs o := by simpa [Value.cells] using e0
  refine ⟨⟨o, x1, x2, x3, x4, bs⟩, A, n, c, ?_, ho, bounds_i64 w1, bounds_i64 w2, bounds_i64 w3, bounds_i64 w4, hr⟩
  congr 1
  apply Array.ext'
  have e : cs.toList = cs.toList.take 16 ++ cs.toList.drop 16 := (List.take_append_drop 16 _).symm
  rw [e, g0]
  unfold frc
  simp only [List.append_cancel_left_eq]
  apply List.ext_getElem?
  intro j
  rw [List.getElem?_drop]
  match j with
  | 0 => rw [g1]; rfl
  | 1 => rw [show 16 + 1 = 17 from rfl, g2]; rfl
  | 2 => rw [show 16 + 2 = 18 from rfl, g3]; rfl
  | 3 => rw [show 16 + 3 = 19 from rfl, g4]; rfl
  | 4 => rw [show 16 + 4 = 20 from rfl, g5]; rfl
  | j + 5 => rw [List.getElem?_eq_none (by rw [Array.length_toList, hsz]; omega), List.getElem?_eq_none (by simp)]
end
end Go.Proofs.YtibcjbelcplpjaaDoor
