/-
  The digest of three bytes, reckoned. Nothing of the program here.
-/
import Derived.Test.YtbfcafjceanghaaDoorShaMath
namespace Go.Proofs.YtbfcafjceanghaaDoor
theorem abc4 : (shaSum [97, 98, 99]).take 4 = [186, 120, 22, 191] := by
  rw [shaSum_eq]
  decide +kernel
end Go.Proofs.YtbfcafjceanghaaDoor
