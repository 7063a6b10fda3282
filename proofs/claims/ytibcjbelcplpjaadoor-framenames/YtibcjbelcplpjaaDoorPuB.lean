/-
  Operations that only read or reckon, as one equation each, going on: a byte's address, a cell, a build. No statement of the seed is proved here.
-/
import Derived.Test.YtibcjbelcplpjaaDoorChecked
import Derived.Test.YtibcjbelcplpjaaDoorPures
import Derived.Test.YtibcjbelcplpjaaDoorLift
import Derived.Test.YtibcjbelcplpjaaDoorInfo
namespace Go.Proofs.YtibcjbelcplpjaaDoor
open Go Go.RowKit
set_option linter.unusedVariables false
section
variable {P : Program} {o : Oper} {ev : Operand → Value}
theorem pureC (ty : TypeId) (x : Operand) (ho : o.op = .load ty x) (a : Addr) (u : Value) (hx : ev x = .pointer (some a)) (hagg : ∀ w, (isAgg ty).run P w = .ok false w) (w : World) (hc : w.cell? a = some u) :
    (execOp ev o).run P w = .ok (.value u) w := by
  unfold execOp
  simp only [ho, hx]
  simp [Instr.loadAt, Instr.sureAddr, loadVar, hagg, hc]
/-- What only reckons, in a row of operations. -/
theorem wpList_val {ops : Array Oper} {rest : List Oper} {a : Act} {w : World} {Q : Exit → Act → World → Prop} (hgd : o.guard = none) (v : Value) (hv : (execOp a.eval o).run P w = .ok (.value v) w) (h : wpList P ops Q rest (a.put o.dst v) w) : wpList P ops Q (o :: rest) a w := by
  refine wpList_plain hgd fun K hK => ?_
  unfold Oper.wp
  rw [hv]
  exact hK _ _ h
theorem pureStrEq (t u : TypeId) (x y : Operand) (ho : o.op = .binOp .eql t x y u) (s1 s2 : ByteArray) (hx : ev x = .string s1) (hy : ev y = .string s2) (r : Bool) (h : (s1.toList == s2.toList) = r) (w : World) : (execOp ev o).run P w = .ok (.value (.bool r)) w := by
  unfold execOp
  simp only [ho, hx, hy]
  simp [eqGuard, binOp, Op.stringOp, h]
theorem pureNeI (t u : TypeId) (x y : Operand) (ho : o.op = .binOp .neq t x y u) (a b : Int) (hx : ev x = .int .i64 a) (hy : ev y = .int .i64 b) (r : Bool) (h : (a != b) = r) (w : World) : (execOp ev o).run P w = .ok (.value (.bool r)) w := by
  unfold execOp
  simp only [ho, hx, hy]
  simp [eqGuard, binOp, Op.intCmp, h]
theorem pureBd (t : TypeId) (parts : Array (Nat × Operand)) (ho : o.op = .build t parts) (cs : Array Value) (hf : P.built t (parts.map fun (i, x) => (i, ev x)).toList = some cs) (w : World) :
    (execOp ev o).run P w = .ok (.value (.agg cs)) w := by
  unfold execOp
  simp only [ho]
  rw [Sem.run_bind, run_build w t _ cs hf]
  rfl
end
theorem pureIxB {o : Oper} {ev : Operand → Value} (x y : Operand) (ho : o.op = .indexAddr 26 x y) (b off n c j : Nat) (hx : ev x = .slice (some ⟨b, off, none⟩) n c) (hy : ev y = .int .i64 (j : Int)) (hj : j < n) (w : World) :
    (execOp ev o).run Tryd.prog w = .ok (.value (.pointer (some ⟨b, off + j, none⟩))) w := by
  obtain ⟨i, hi, _, hsz, _⟩ := info_parts u8info
  unfold execOp
  simp only [ho, hx, hy]
  simp [Instr.indexAt, run_underlying Tryd.underlying26, asIntOf, sizeOf, typeInfo, hi, hsz, addr_add, hj]
theorem pureByte {o : Oper} {ev : Operand → Value} (x : Operand) (ho : o.op = .load 5 x) (a : Addr) (u : Value) (hx : ev x = .pointer (some a)) (w : World) (hc : w.cell? a = some u) : (execOp ev o).run Tryd.prog w = .ok (.value u) w :=
  pureC 5 x ho a u hx (fun w => by kernel_rfl) w hc
theorem pureU8I {o : Oper} {ev : Operand → Value} (T : TypeId) (x : Operand) (ho : o.op = .convert 5 T x) (b : UInt8) (hx : ev x = .int .u8 (b.toNat : Int)) (hs : Tryd.prog.underlying T = some (.int .i64)) (w : World) :
    (execOp ev o).run Tryd.prog w = .ok (.value (.int .i64 (b.toNat : Int))) w :=
  pure_conv 5 T x ho .u8 .i64 _ _ hx (by kernel_rfl) hs (by have := b.toNat_lt; rw [IntWalk.i64_in _ (by omega)]) w
end Go.Proofs.YtibcjbelcplpjaaDoor
