/-
  How layer 12's acts that came in as arguments are read. No statement of the seed is proved here.
-/
import Derived.Test.YtmhigipljplgdaaDoorKy1
namespace Go.Proofs.YtmhigipljplgdaaDoor
open Go.ChangeShapes Go.WideShapes Go.ChangeAt Go.RowKit
set_option linter.unusedVariables false

/-- An act as it lies. -/
structure ActK where
  kind : Int
  num : Int
  A : Option Addr
  len : Nat
  cap : Nat
  ks : Ks
structure ActKAt (w : World) (b o : Nat) (a : ActK) : Prop where
  c0 : w.cell? ⟨b, o, none⟩ = some (.int .i64 a.kind)
  c1 : w.cell? ⟨b, o + 1, none⟩ = some (.int .i64 a.num)
  c2 : w.cell? ⟨b, o + 2, none⟩ = some (.slice a.A a.len a.cap)
  keys : RdK w a.A a.len a.cap a.ks
  k0 : -9223372036854775808 ≤ a.kind ∧ a.kind ≤ 9223372036854775807
  n0 : -9223372036854775808 ≤ a.num ∧ a.num ≤ 9223372036854775807
structure RdActK (w : World) (A : Option Addr) (n c : Nat) (l : List ActK) : Prop where
  len : l.length = n
  cap : n ≤ c
  most : c ≤ maxLen
  cells : 0 < n → ∃ b off, A = some ⟨b, off, none⟩ ∧ ∀ j, (h : j < l.length) → ActKAt w b (off + j * 3) l[j]
/-- Old blocks alone matter: what was made behind may turn. -/
theorem ActKAt.keptNew {w w' : World} {b o : Nat} {a : ActK} {S : List Nat} (h : ActKAt w b o a) (hk : Kept S w w') (hS : ∀ i, i ∈ S → w.heap.size ≤ i) : ActKAt w' b o a := by
  have hb : b < w.heap.size := World.block_lt_of_cell? w _ h.c0
  have hn : b ∉ S := fun hm => by have := hS b hm; omega
  exact ⟨(hk.cell (p := ⟨b, o, none⟩) hb hn).trans h.c0, (hk.cell (p := ⟨b, o + 1, none⟩) hb hn).trans h.c1, (hk.cell (p := ⟨b, o + 2, none⟩) hb hn).trans h.c2, h.keys.keptNew hk hS, h.k0, h.n0⟩
theorem ActKAt.kept0 {w w' : World} {b o : Nat} {a : ActK} (h : ActKAt w b o a) (hk : Kept [] w w') : ActKAt w' b o a := h.keptNew hk (by simp)
theorem RdActK.at_ {w : World} {A : Option Addr} {n c : Nat} {l : List ActK} (h : RdActK w A n c l) {k : Nat} (hk : k < n) : ∃ b off a, A = some ⟨b, off, none⟩ ∧ l[k]? = some a ∧ ActKAt w b (off + k * 3) a := by
  obtain ⟨b, off, e, hc⟩ := h.cells (by omega)
  have hl := h.len
  exact ⟨b, off, l[k]'(by omega), e, List.getElem?_eq_getElem (by omega), hc k (by omega)⟩
theorem actk_of_trod {H : Type} {enc : TypeId × Value → H} {W : World} {base b0 : Nat} {sp : Nat → Bool} {held : Bool} {r : Reach} {v : Value} {d : DataW H} {p : List MemPlace}
    (hv : Value.okWide Tryd.prog W r b0 23 v) (h : DataW.Trod enc Tryd.prog W base sp held 23 v d p) :
    ∃ A n c l, v = .slice A n c ∧ RdActK W A n c l := by
  obtain ⟨A0, n0, c0, rfl⟩ := okWide_slice Tryd.underlying23 hv
  have hC : Tryd.prog.cellsOf 28 = 3 := by kernel_rfl
  have hCi : Tryd.prog.cellsOf 3 = 1 := by kernel_rfl
  have hCb : Tryd.prog.cellsOf 22 = 1 := by kernel_rfl
  obtain ⟨fuel, hf⟩ := h
  obtain ⟨A, n, c, e, hnc, hcm, hel⟩ := slice_elems Tryd.underlying23 (by rw [hC]; omega) hf
  simp only [Value.cells, List.cons.injEq, Value.slice.injEq, and_true] at e
  obtain ⟨rfl, rfl, rfl⟩ := e
  rcases Nat.eq_zero_or_pos n0 with h0 | h0
  · subst h0
    exact ⟨A0, 0, c0, [], rfl, rfl, hnc, hcm, fun h => absurd h (by omega)⟩
  · obtain ⟨b, off, rfl, hi⟩ := hel h0
    have hone : ∀ i, i < n0 → ∃ a : ActK, ActKAt W b (off + i * 3) a := by
      intro i hil
      obtain ⟨cs, m, z, hcl, hat, htr⟩ := hi i hil
      rw [hC] at hcl hat
      obtain ⟨m0, z0, t0⟩ := struct_field Tryd.underlying28 htr 0 3 0 1 rfl hCi
      obtain ⟨m1, z1, t1⟩ := struct_field Tryd.underlying28 htr 1 3 1 1 rfl hCi
      obtain ⟨m2, z2, t2⟩ := struct_field Tryd.underlying28 htr 2 22 2 1 rfl hCb
      obtain ⟨x0, e0, w0⟩ := leaf_int Tryd.underlying3 t0
      obtain ⟨x1, e1, w1⟩ := leaf_int Tryd.underlying3 t1
      obtain ⟨A3, l3, c3, ks3, e3, r3⟩ := leaf_keys t2
      match cs, hcl with
      | [v0, v1, v2], _ =>
        simp at e0 e1 e3
        subst e0 e1 e3
        have g0 := hat 0 (by omega)
        have g1 := hat 1 (by omega)
        have g2 := hat 2 (by omega)
        exact ⟨⟨x0, x1, A3, l3, c3, ks3⟩, by simpa using g0, by simpa [Nat.add_assoc] using g1, by simpa [Nat.add_assoc] using g2, r3, bounds_i64 w0, bounds_i64 w1⟩
    have hall : ∃ l : List ActK, l.length = n0 ∧ ∀ j, (h : j < l.length) → ActKAt W b (off + j * 3) l[j] := list_of hone
    obtain ⟨l, hl, hl2⟩ := hall
    exact ⟨_, n0, c0, l, rfl, hl, hnc, hcm, fun _ => ⟨b, off, rfl, hl2⟩⟩
end Go.Proofs.YtmhigipljplgdaaDoor
