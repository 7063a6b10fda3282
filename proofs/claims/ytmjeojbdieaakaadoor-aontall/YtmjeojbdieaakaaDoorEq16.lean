/-
  Two rows of sixteen bytes held against each other. No statement of the seed is proved here.
-/
import Derived.Test.YtmjeojbdieaakaaDoorAes3
import Derived.Stop.BytesEq
namespace Go.Proofs.YtmjeojbdieaakaaDoor
open Go.RowKit
set_option linter.unusedVariables false

theorem size_run8 (W : World) : (sizeOf 5).run Tryd.prog W = .ok 1 W := by
  have h1 := size1u
  cases hq : Tryd.prog.info? 5 with
  | none => simp [hq] at h1
  | some i =>
    have hi : i.size = 1 := by simpa [hq] using h1
    simp [sizeOf, typeInfo, hq, hi]
theorem run_eq16 (l m : List UInt8) (hl : l.length = 16) (hm : m.length = 16) (W : World) : (Op.equalIn 10000 58 (.agg (bvs l).toArray) (.agg (bvs m).toArray)).run Tryd.prog W = .ok (l == m) W :=
  run_equalIn_bytes (P := Tryd.prog) W 9998 58 5 16 arr16b und8 size_run8 l m hl hm
theorem run_eql16 (o : Oper) (ev : Operand → Value) (x y : Operand) (u : TypeId) (ho : o.op = .binOp .eql 58 x y u) (l m : List UInt8) (hl : l.length = 16) (hm : m.length = 16)
    (hx : ev x = .agg (bvs l).toArray) (hy : ev y = .agg (bvs m).toArray) (w : World) : (execOp ev o).run Tryd.prog w = .ok (.value (.bool (l == m))) w := by
  have hg := run_eqGuard_agg (P := Tryd.prog) w .eql 58 x y (bvs l).toArray (bvs m).toArray (by kernel_rfl)
  have he := run_eql_bytes (P := Tryd.prog) w 58 5 16 arr16b und8 size_run8 l m hl hm
  have he2 : (binOp .eql 58 (.agg (bvs l).toArray) (.agg (bvs m).toArray)).run Tryd.prog w = .ok (.bool (l == m)) w := he
  unfold execOp
  simp only [ho, hx, hy, Sem.run_bind, hg, Result.andThen_ok, he2, Sem.run_pure]
end Go.Proofs.YtmjeojbdieaakaaDoor
