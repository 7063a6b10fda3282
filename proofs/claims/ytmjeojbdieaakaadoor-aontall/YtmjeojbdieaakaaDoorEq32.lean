/-
  Two keys held against each other. No statement of the seed is proved here.
-/
import Derived.Test.YtmjeojbdieaakaaDoorPb
import Derived.Test.YtmjeojbdieaakaaDoorEq16
namespace Go.Proofs.YtmjeojbdieaakaaDoor
open Go.RowKit
set_option linter.unusedVariables false

theorem run_eq32 (l m : List UInt8) (hl : l.length = 32) (hm : m.length = 32) (W : World) : (Op.equalIn 10000 24 (.agg (bvs l).toArray) (.agg (bvs m).toArray)).run Tryd.prog W = .ok (l == m) W :=
  run_equalIn_bytes (P := Tryd.prog) W 9998 24 5 32 arr32b und8 size_run8 l m hl hm
theorem run_eql32 (o : Oper) (ev : Operand → Value) (x y : Operand) (u : TypeId) (ho : o.op = .binOp .eql 24 x y u) (l m : List UInt8) (hl : l.length = 32) (hm : m.length = 32)
    (hx : ev x = .agg (bvs l).toArray) (hy : ev y = .agg (bvs m).toArray) (w : World) : (execOp ev o).run Tryd.prog w = .ok (.value (.bool (l == m))) w := by
  have hg := run_eqGuard_agg (P := Tryd.prog) w .eql 24 x y (bvs l).toArray (bvs m).toArray (by kernel_rfl)
  have he := run_eql_bytes (P := Tryd.prog) w 24 5 32 arr32b und8 size_run8 l m hl hm
  have he2 : (binOp .eql 24 (.agg (bvs l).toArray) (.agg (bvs m).toArray)).run Tryd.prog w = .ok (.bool (l == m)) w := he
  unfold execOp
  simp only [ho, hx, hy, Sem.run_bind, hg, Result.andThen_ok, he2, Sem.run_pure]
end Go.Proofs.YtmjeojbdieaakaaDoor
