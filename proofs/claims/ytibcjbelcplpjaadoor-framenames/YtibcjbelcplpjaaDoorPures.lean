/-
  Operations that only reckon, as one equation each, for regions that are walked step by step. Nothing of the program here.
-/
import Derived.Test.YtibcjbelcplpjaaDoorHeld
namespace Go.Proofs.YtibcjbelcplpjaaDoor
open Go Go.RowKit
set_option linter.unusedVariables false
section
variable {P : Program} {ops : Array Oper} {Q : Exit → Act → World → Prop} {S : World → Prop} {md : Region.Mode}
/-- As held_load, the slot named. -/
theorem held_loadD (i d : Nat) {oi : Oper} {fuel : Nat} {listed : Array Bool} {a : Act} {w : World} (hi : ops[i]? = some oi) (hdst : oi.dst = some d) (hs : Region.noSelect ops = true) (hf : Region.free md ops listed i = true) (hr : (Region.ready md ops listed).contains i = true)
    (hw : Region.wanted oi (yielded ops a.tmps) = true) (ty : TypeId) (x : Operand) (ho : oi.op = .load ty x) (b o : Nat) (hx : a.eval x = .pointer (some ⟨b, o, none⟩)) (cs : List Value) (u : TypeDesc)
    (hS : ∀ w, S w → w.rangeAt b o cs) (hu : P.underlying ty = some u) (hd : u.isRow = true) (hz : (P.info? ty).map (·.size) = some cs.length) (hSw : S w)
    (h : wpAnyH P md ops (NoPanic Q) S fuel (listed.setIfInBounds i true) (a.put (some d) (.agg cs.toArray)) w) : wpAnyH P md ops (NoPanic Q) S (fuel + 1) listed a w :=
  held_load i hi hs hf hr hw ty x ho b o hx cs u hS hu hd hz hSw (by rw [hdst]; exact h)
/-- As held_pure, the slot named. -/
theorem held_pureD (i d : Nat) {oi : Oper} {fuel : Nat} {listed : Array Bool} {a : Act} {w : World} (v : Value) (hi : ops[i]? = some oi) (hdst : oi.dst = some d) (hs : Region.noSelect ops = true) (hf : Region.free md ops listed i = true) (hr : (Region.ready md ops listed).contains i = true)
    (hw : Region.wanted oi (yielded ops a.tmps) = true) (hv : ∀ w, S w → (execOp a.eval oi).run P w = .ok (.value v) w) (hSw : S w)
    (h : wpAnyH P md ops (NoPanic Q) S fuel (listed.setIfInBounds i true) (a.put (some d) v) w) : wpAnyH P md ops (NoPanic Q) S (fuel + 1) listed a w :=
  held_pure i v hi hs hf hr hw hv hSw (by rw [hdst]; exact h)
end
section
variable {P : Program} {o : Oper} {ev : Operand → Value}
theorem pure_conv (src dst : TypeId) (x : Operand) (ho : o.op = .convert src dst x) (q k : IntKind) (z r : Int) (hx : ev x = .int q z) (hs : (P.underlying src).isSome = true) (hd : P.underlying dst = some (.int k)) (hr : k.wrap z = r) (w : World) :
    (execOp ev o).run P w = .ok (.value (.int k r)) w := by
  obtain ⟨d, hd'⟩ := Option.isSome_iff_exists.mp hs
  unfold execOp
  simp only [ho, hx]
  simp [convert, run_underlying hd', run_underlying hd, Conv.intToInt, hr]
theorem pure_add (t u : TypeId) (x y : Operand) (ho : o.op = .binOp .add t x y u) (k : IntKind) (a b r : Int) (hx : ev x = .int k a) (hy : ev y = .int k b) (hr : k.wrap (a + b) = r) (w : World) :
    (execOp ev o).run P w = .ok (.value (.int k r)) w := by
  unfold execOp
  simp only [ho, hx, hy]
  simp [eqGuard, binOp, Op.intArith, hr]
theorem pure_quo (t u : TypeId) (x y : Operand) (ho : o.op = .binOp .quo t x y u) (k : IntKind) (a b r : Int) (hx : ev x = .int k a) (hy : ev y = .int k b) (hb : b ≠ 0) (hr : k.wrap (a.tdiv b) = r) (w : World) :
    (execOp ev o).run P w = .ok (.value (.int k r)) w := by
  unfold execOp
  simp only [ho, hx, hy]
  simp [eqGuard, binOp, Op.intDiv, hb, hr]
theorem pure_cut (t : TypeId) (x : Operand) (lo hi : Option Operand) (ho : o.op = .slice t x lo hi none) (A : Option Addr) (n c : Nat) (u : Value) (hx : ev x = .slice A n c) (e : TypeId) (ht : P.underlying t = some (.slice e)) (w : World)
    (h : (Instr.slice t (.slice A n c) (lo.map ev) (hi.map ev) none).run P w = .ok u w) : (execOp ev o).run P w = .ok (.value u) w := by
  unfold execOp
  simp only [ho, hx]
  simp [Instr.sliceAt, run_underlying ht, h]
end
end Go.Proofs.YtibcjbelcplpjaaDoor
