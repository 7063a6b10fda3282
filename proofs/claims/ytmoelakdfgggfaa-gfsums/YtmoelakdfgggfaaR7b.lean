/-
  Contracts of the document's own answers for layer 7: too long, for this layer? No statement of the seed is proved here.
-/
import Derived.Test.YtmoelakdfgggfaaR7s
import Derived.Test.YtmoelakdfgggfaaR7m
import Derived.Test.YtmoelakdfgggfaaGfS
import Derived.Test.YtmoelakdfgggfaaGf4
namespace Go.Proofs.Ytmoelakdfgggfaa
open Go.RowKit
set_option linter.unusedVariables false

def LongRet (n : Nat) (ls : List (List UInt8)) (w : World) (e : Ending) (w' : World) : Prop := LongRetG 30 100 n ls w e w'
theorem long7_any (A : Option Addr) (n c : Nat) (ls : List (List UInt8)) (w : World) (hr : RdL w A n c ls) :
    Calls Try.prog 18 #[.slice A n c, .int .i64 30, .int .i64 100] w (LongRet n ls w) := longG_any 30 100 A n c ls w hr (by omega) (by omega)
end Go.Proofs.Ytmoelakdfgggfaa
