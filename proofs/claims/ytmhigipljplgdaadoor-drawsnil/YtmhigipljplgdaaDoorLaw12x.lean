/-
  The walks of two laws of layer 12: whatever is drawn, and handed in behind, is what the document says; draws that are not there tell so. No statement of the seed is proved here.
-/
import Derived.Test.YtmhigipljplgdaaDoorLaw12d
import Derived.Test.YtmhigipljplgdaaDoorLaw12n
import Derived.Test.YtmhigipljplgdaaDoorLaw12w
import Derived.Test.YtmhigipljplgdaaDoorDw4
import Derived.Test.YtmhigipljplgdaaDoorKy2
namespace Go.Proofs.YtmhigipljplgdaaDoor
open Go.RowKit
set_option linter.unusedVariables false

theorem drawsActs_walk (A : Option Addr) (n c : Nat) (ks0 : Ks) (A' : Option Addr) (n' c' : Nat) (l : List ActK) (w : World) (hgl : Glob w) (hr : RdK w A n c ks0) (ha : RdActK w A' n' c' l) :
    Calls Tryd.prog 3 #[.slice A n c, .slice A' n' c'] w fun e w' => e = .returned (.bool true) ∧ Kept [] w w' :=
  acts12_walk DrA drHas dId_one dId_none (wakes12_any DrA drHas) A n c ks0 A' n' c' l w hgl hr ha
theorem drawsNil_walk (A : Option Addr) (n c : Nat) (ks : Ks) (z : Int) (w : World) (hgl : Glob w) (hr : RdK w A n c ks) (hn : (Lit.int .i64 z).wf = true) :
    Calls Tryd.prog 4 #[.slice A n c, .int .i64 z] w fun e w' => e = .returned (.bool true) ∧ Kept [] w w' := by
  have hz : -9223372036854775808 ≤ z ∧ z ≤ 9223372036854775807 := bounds_i64 hn
  exact nil12_walk drNil (wakes12_any DrA drHas) A n c ks z w hz.1 hz.2 hr
end Go.Proofs.YtmhigipljplgdaaDoor
