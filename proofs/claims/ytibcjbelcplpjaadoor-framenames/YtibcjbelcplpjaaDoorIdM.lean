/-
  Objects' names as values; two held against each other. No statement of the seed is proved here.
-/
import Derived.Test.YtibcjbelcplpjaaDoorEq32
namespace Go.Proofs.YtibcjbelcplpjaaDoor
open Go.RowKit
set_option linter.unusedVariables false

theorem zeroId : (Tryd.prog.info? 25).bind (·.zero) = some (.agg (zb 16).toArray) := by kernel_rfl
theorem sizeId : (Tryd.prog.info? 25).map (·.size) = some 16 := by kernel_rfl
theorem zb16_size : (Tryd.prog.info? 25).map (·.size) = some (zb 16).length := by kernel_rfl
theorem zb16_one : ∀ v ∈ zb 16, v.oneCell' = true := bvs_one _
theorem builtId : Tryd.prog.built 25 [] = some (zb 16).toArray := by kernel_rfl
theorem arrId : Tryd.prog.underlying 25 = some (.array 16 5) := by kernel_rfl
theorem run_neqId (o : Oper) (ev : Operand → Value) (x y : Operand) (u : TypeId) (ho : o.op = .binOp .neq 25 x y u) (l m : List UInt8) (hl : l.length = 16) (hm : m.length = 16)
    (hx : ev x = .agg (bvs l).toArray) (hy : ev y = .agg (bvs m).toArray) (w : World) : (execOp ev o).run Tryd.prog w = .ok (.value (.bool (!(l == m)))) w := by
  have hg := run_eqGuard_agg (P := Tryd.prog) w .neq 25 x y (bvs l).toArray (bvs m).toArray (by kernel_rfl)
  have he : (Op.equalIn 10000 25 (.agg (bvs l).toArray) (.agg (bvs m).toArray)).run Tryd.prog w = .ok (l == m) w := run_equalIn_bytes (P := Tryd.prog) w 9998 25 5 16 arrId und8k size_run8k l m hl hm
  unfold execOp
  simp only [ho, hx, hy, Sem.run_bind, hg, Result.andThen_ok]
  simp [binOp, Op.equal]
  rw [show Op.maxDepth = 10000 from rfl, he]
  rfl
end Go.Proofs.YtibcjbelcplpjaaDoor
