/-
  Helper words: a key of 32 bytes as a variable. No statement of the seed is proved here.
-/
import Derived.Test.YtmhigipljplgdaaDoorChecked
import Derived.Test.YtmhigipljplgdaaDoorWd
namespace Go.Proofs.YtmhigipljplgdaaDoor
open Go.RowKit
set_option linter.unusedVariables false

theorem zero32 : (Tryd.prog.info? 32).bind (·.zero) = some (.agg (zb 32).toArray) := by kernel_rfl
theorem arr32b : Tryd.prog.underlying 32 = some (.array 32 5) := by kernel_rfl
theorem size32 : (Tryd.prog.info? 32).map (·.size) = some 32 := by kernel_rfl
theorem zb_size : (Tryd.prog.info? 32).map (·.size) = some (zb 32).length := by rw [zb_length]; exact size32
theorem zb_one : ∀ u ∈ zb 32, u.oneCell' = true := bvs_one _
end Go.Proofs.YtmhigipljplgdaaDoor
