/-
  Two names out of draws held against each other. No statement of the seed is proved here.
-/
import Derived.Test.YtmhigipljplgdaaDoorKd3
import Derived.Test.YtmhigipljplgdaaDoorEq32
namespace Go.Proofs.YtmhigipljplgdaaDoor
open Go.RowKit
set_option linter.unusedVariables false

theorem arrId : Tryd.prog.underlying 40 = some (.array 16 5) := by kernel_rfl
theorem run_neqId (o : Oper) (ev : Operand → Value) (x y : Operand) (u : TypeId) (ho : o.op = .binOp .neq 40 x y u) (l m : List UInt8) (hl : l.length = 16) (hm : m.length = 16)
    (hx : ev x = .agg (bvs l).toArray) (hy : ev y = .agg (bvs m).toArray) (w : World) : (execOp ev o).run Tryd.prog w = .ok (.value (.bool (!(l == m)))) w := by
  have hg := run_eqGuard_agg (P := Tryd.prog) w .neq 40 x y (bvs l).toArray (bvs m).toArray (by kernel_rfl)
  have he : (Op.equalIn 10000 40 (.agg (bvs l).toArray) (.agg (bvs m).toArray)).run Tryd.prog w = .ok (l == m) w := run_equalIn_bytes (P := Tryd.prog) w 9998 40 5 16 arrId und8k size_run8k l m hl hm
  unfold execOp
  simp only [ho, hx, hy, Sem.run_bind, hg, Result.andThen_ok]
  simp [binOp, Op.equal]
  rw [show Op.maxDepth = 10000 from rfl, he]
  rfl
end Go.Proofs.YtmhigipljplgdaaDoor
