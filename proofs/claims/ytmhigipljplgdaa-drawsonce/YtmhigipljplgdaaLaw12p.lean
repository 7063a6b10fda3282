/-
  The walk of a law of layer 12: drawn one by one, all come, in order, and then none. No statement of the seed is proved here.
-/
import Derived.Test.YtmhigipljplgdaaLaw12o
import Derived.Test.YtmhigipljplgdaaLaw12w
import Derived.Test.YtmhigipljplgdaaDw2
import Derived.Test.YtmhigipljplgdaaKy1
namespace Go.Proofs.Ytmhigipljplgdaa
open Go.RowKit
set_option linter.unusedVariables false

theorem drawsOnce_walk (A : Option Addr) (n c : Nat) (ks : Ks) (A' : Option Addr) (n' c' : Nat) (ms : Ks) (w : World) (hr : RdK w A n c ks) (hr' : RdK w A' n' c' ms) :
    Calls Try.prog 3 #[.slice A n c, .slice A' n' c'] w fun e w' => e = .returned (.bool true) ∧ Kept [] w w' :=
  once12_walk DrA drHas (wakes12_any DrA drHas) A n c ks A' n' c' ms w hr hr'
end Go.Proofs.Ytmhigipljplgdaa
