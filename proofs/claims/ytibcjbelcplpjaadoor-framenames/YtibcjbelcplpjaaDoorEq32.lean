/-
  Two keys held against each other. No statement of the seed is proved here.
-/
import Derived.Test.YtibcjbelcplpjaaDoorK32
import Derived.Stop.BytesEq
namespace Go.Proofs.YtibcjbelcplpjaaDoor
open Go.RowKit
set_option linter.unusedVariables false

theorem und8k : Tryd.prog.underlying 5 = some (.int .u8) := by kernel_rfl
theorem size_run8k (W : World) : (sizeOf 5).run Tryd.prog W = .ok 1 W := by
  have h1 : (Tryd.prog.info? 5).map (·.size) = some 1 := by kernel_rfl
  cases hq : Tryd.prog.info? 5 with
  | none => simp [hq] at h1
  | some i =>
    have hi : i.size = 1 := by simpa [hq] using h1
    simp [sizeOf, typeInfo, hq, hi]
theorem run_eq32 (l m : List UInt8) (hl : l.length = 32) (hm : m.length = 32) (W : World) : (Op.equalIn 10000 23 (.agg (bvs l).toArray) (.agg (bvs m).toArray)).run Tryd.prog W = .ok (l == m) W :=
  run_equalIn_bytes (P := Tryd.prog) W 9998 23 5 32 arr32b und8k size_run8k l m hl hm
theorem run_eql32 (o : Oper) (ev : Operand → Value) (x y : Operand) (u : TypeId) (ho : o.op = .binOp .eql 23 x y u) (l m : List UInt8) (hl : l.length = 32) (hm : m.length = 32)
    (hx : ev x = .agg (bvs l).toArray) (hy : ev y = .agg (bvs m).toArray) (w : World) : (execOp ev o).run Tryd.prog w = .ok (.value (.bool (l == m))) w := by
  have hg := run_eqGuard_agg (P := Tryd.prog) w .eql 23 x y (bvs l).toArray (bvs m).toArray (by kernel_rfl)
  have he := run_eql_bytes (P := Tryd.prog) w 23 5 32 arr32b und8k size_run8k l m hl hm
  have he2 : (binOp .eql 23 (.agg (bvs l).toArray) (.agg (bvs m).toArray)).run Tryd.prog w = .ok (.bool (l == m)) w := he
  unfold execOp
  simp only [ho, hx, hy, Sem.run_bind, hg, Result.andThen_ok, he2, Sem.run_pure]
theorem run_neq32 (o : Oper) (ev : Operand → Value) (x y : Operand) (u : TypeId) (ho : o.op = .binOp .neq 23 x y u) (l m : List UInt8) (hl : l.length = 32) (hm : m.length = 32)
    (hx : ev x = .agg (bvs l).toArray) (hy : ev y = .agg (bvs m).toArray) (w : World) : (execOp ev o).run Tryd.prog w = .ok (.value (.bool (!(l == m)))) w := by
  have hg := run_eqGuard_agg (P := Tryd.prog) w .neq 23 x y (bvs l).toArray (bvs m).toArray (by kernel_rfl)
  have he := run_eq32 l m hl hm w
  unfold execOp
  simp only [ho, hx, hy, Sem.run_bind, hg, Result.andThen_ok]
  simp [binOp, Op.equal]
  rw [show Op.maxDepth = 10000 from rfl, he]
  rfl
end Go.Proofs.YtibcjbelcplpjaaDoor
