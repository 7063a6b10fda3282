/-
  How the acts of layer 1's laws are read. No statement of the seed is proved here.
-/
import Derived.Test.YtfkhlnhnanimkaaChecked
import Derived.Test.YtfkhlnhnanimkaaLift
namespace Go.Proofs.Ytfkhlnhnanimkaa
open Go.ChangeShapes Go.WideShapes Go.ChangeAt Go.RowKit
set_option linter.unusedVariables false

/-- An act as it lies. -/
structure ActD where
  kind : Int
  num : Int
  x : Int
  A : Option Addr
  len : Nat
  cap : Nat
  bs : List UInt8

/-- The four cells of an act, from a place on. -/
structure ActAt (w : World) (b o : Nat) (a : ActD) : Prop where
  c0 : w.cell? ⟨b, o, none⟩ = some (.int .i64 a.kind)
  c1 : w.cell? ⟨b, o + 1, none⟩ = some (.int .i64 a.num)
  c2 : w.cell? ⟨b, o + 2, none⟩ = some (.int .u64 a.x)
  c3 : w.cell? ⟨b, o + 3, none⟩ = some (.slice a.A a.len a.cap)
  text : RdB w a.A a.len a.cap a.bs
  k0 : -9223372036854775808 ≤ a.kind ∧ a.kind ≤ 9223372036854775807
  n0 : -9223372036854775808 ≤ a.num ∧ a.num ≤ 9223372036854775807
  x0 : 0 ≤ a.x ∧ a.x ≤ 18446744073709551615

structure RdActs (w : World) (A : Option Addr) (n c : Nat) (l : List ActD) : Prop where
  len : l.length = n
  cap : n ≤ c
  most : c ≤ maxLen
  cells : 0 < n → ∃ b off, A = some ⟨b, off, none⟩ ∧ ∀ j, (h : j < l.length) → ActAt w b (off + j * 4) l[j]

theorem ActAt.kept0 {w w' : World} {b o : Nat} {a : ActD} (h : ActAt w b o a) (hk : Kept [] w w') : ActAt w' b o a := by
  have hb : b < w.heap.size := World.block_lt_of_cell? w _ h.c0
  exact ⟨(hk.cell hb (by simp)).trans h.c0, (hk.cell (p := ⟨b, o + 1, none⟩) hb (by simp)).trans h.c1, (hk.cell (p := ⟨b, o + 2, none⟩) hb (by simp)).trans h.c2, (hk.cell (p := ⟨b, o + 3, none⟩) hb (by simp)).trans h.c3, h.text.kept0 hk, h.k0, h.n0, h.x0⟩
theorem RdActs.at_ {w : World} {A : Option Addr} {n c : Nat} {l : List ActD} (h : RdActs w A n c l) {k : Nat} (hk : k < n) : ∃ b off a, A = some ⟨b, off, none⟩ ∧ l[k]? = some a ∧ ActAt w b (off + k * 4) a := by
  obtain ⟨b, off, e, hc⟩ := h.cells (by omega)
  have hl := h.len
  exact ⟨b, off, l[k]'(by omega), e, List.getElem?_eq_getElem (by omega), hc k (by omega)⟩

theorem acts_of_trod {H : Type} {enc : TypeId × Value → H} {W : World} {base b0 : Nat} {sp : Nat → Bool} {held : Bool} {r : Reach} {v : Value} {d : DataW H} {p : List MemPlace}
    (hv : Value.okWide Try.prog W r b0 22 v) (h : DataW.Trod enc Try.prog W base sp held 22 v d p) :
    ∃ A n c l, v = .slice A n c ∧ RdActs W A n c l := by
  obtain ⟨A0, n0, c0, rfl⟩ := okWide_slice Try.underlying22 hv
  have hC : Try.prog.cellsOf 30 = 4 := by kernel_rfl
  have hC5 : Try.prog.cellsOf 5 = 1 := by kernel_rfl
  have hCi : Try.prog.cellsOf 3 = 1 := by kernel_rfl
  have hCu : Try.prog.cellsOf 28 = 1 := by kernel_rfl
  have hCb : Try.prog.cellsOf 25 = 1 := by kernel_rfl
  obtain ⟨fuel, hf⟩ := h
  obtain ⟨A, n, c, e, hnc, hcm, hel⟩ := slice_elems Try.underlying22 (by rw [hC]; omega) hf
  simp only [Value.cells, List.cons.injEq, Value.slice.injEq, and_true] at e
  obtain ⟨rfl, rfl, rfl⟩ := e
  rcases Nat.eq_zero_or_pos n0 with h0 | h0
  · subst h0
    exact ⟨A0, 0, c0, [], rfl, rfl, hnc, hcm, fun h => absurd h (by omega)⟩
  · obtain ⟨b, off, rfl, hi⟩ := hel h0
    have hone : ∀ i, i < n0 → ∃ a : ActD, ActAt W b (off + i * 4) a := by
      intro i hil
      obtain ⟨cs, m, z, hcl, hat, htr⟩ := hi i hil
      rw [hC] at hcl hat
      obtain ⟨m0, z0, t0⟩ := struct_field Try.underlying30 htr 0 3 0 1 rfl hCi
      obtain ⟨m1, z1, t1⟩ := struct_field Try.underlying30 htr 1 3 1 1 rfl hCi
      obtain ⟨m2, z2, t2⟩ := struct_field Try.underlying30 htr 2 28 2 1 rfl hCu
      obtain ⟨m3, z3, t3⟩ := struct_field Try.underlying30 htr 3 25 3 1 rfl hCb
      obtain ⟨x0, e0, w0⟩ := leaf_int Try.underlying3 t0
      obtain ⟨x1, e1, w1⟩ := leaf_int Try.underlying3 t1
      obtain ⟨x2, e2, w2⟩ := leaf_int Try.underlying28 t2
      obtain ⟨A3, l3, c3, bs3, e3, r3⟩ := leaf_bytes Try.underlying25 Try.underlying5 hC5 t3
      match cs, hcl with
      | [v0, v1, v2, v3], _ =>
        simp at e0 e1 e2 e3
        subst e0 e1 e2 e3
        have g0 := hat 0 (by omega)
        have g1 := hat 1 (by omega)
        have g2 := hat 2 (by omega)
        have g3 := hat 3 (by omega)
        exact ⟨⟨x0, x1, x2, A3, l3, c3, bs3⟩, by simpa using g0, by simpa [Nat.add_assoc] using g1, by simpa [Nat.add_assoc] using g2, by simpa [Nat.add_assoc] using g3, r3, bounds_i64 w0, bounds_i64 w1, bounds_u64 w2⟩
    have hall : ∃ l : List ActD, l.length = n0 ∧ ∀ j, (h : j < l.length) → ActAt W b (off + j * 4) l[j] := list_of hone
    obtain ⟨l, hl, hl2⟩ := hall
    exact ⟨_, n0, c0, l, rfl, hl, hnc, hcm, fun _ => ⟨b, off, rfl, hl2⟩⟩
end Go.Proofs.Ytfkhlnhnanimkaa
