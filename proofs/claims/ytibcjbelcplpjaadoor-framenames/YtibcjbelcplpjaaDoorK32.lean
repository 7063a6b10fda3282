/-
  Helper words: a key of 32 bytes as a variable. No statement of the seed is proved here.
-/
import Derived.Test.YtibcjbelcplpjaaDoorChecked
import Derived.Test.YtibcjbelcplpjaaDoorWd
namespace Go.Proofs.YtibcjbelcplpjaaDoor
open Go.RowKit
set_option linter.unusedVariables false

theorem zero32 : (Tryd.prog.info? 23).bind (·.zero) = some (.agg (zb 32).toArray) := by kernel_rfl
theorem arr32b : Tryd.prog.underlying 23 = some (.array 32 5) := by kernel_rfl
theorem size32 : (Tryd.prog.info? 23).map (·.size) = some 32 := by kernel_rfl
theorem zb_size : (Tryd.prog.info? 23).map (·.size) = some (zb 32).length := by rw [zb_length]; exact size32
theorem zb_one : ∀ u ∈ zb 32, u.oneCell' = true := bvs_one _
end Go.Proofs.YtibcjbelcplpjaaDoor
