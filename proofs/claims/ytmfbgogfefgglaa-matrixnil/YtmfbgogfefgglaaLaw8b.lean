/-
  Walk of layer 8's law MatrixNil. No statement of the seed is proved here.
-/
import Derived.Test.YtmfbgogfefgglaaLaw8a
import Derived.Test.YtmfbgogfefgglaaM88
import Derived.Test.YtmfbgogfefgglaaM89
import Derived.Test.YtmfbgogfefgglaaM8u
namespace Go.Proofs.Ytmfbgogfefgglaa
open Go.RowKit
set_option linter.unusedVariables false

set_option maxRecDepth 100000 in
set_option maxHeartbeats 2000000 in
theorem nil8_walk (A : Option Addr) (n c : Nat) (ls : List (List UInt8)) (z : Int) (w : World) (hr : RdL w A n c ls) (hn : (Lit.int .i64 z).wf = true) :
    Calls Try.prog 7 #[.slice A n c, .int .i64 z] w fun e w' => e = .returned (.bool true) ∧ Kept [] w w' := by
  clear hr hn
  go_enter Try.func7, Try.ntmps7
  go_wp2_with fail
  refine (wakes8_any _).mono ?_
  rintro e w1 ⟨rfl, hk1⟩
  have HK := Lib.hid hk1
  clear hk1
  go_wp2_with fail
  refine (mul8_nil _ _ _ _ _ _ _).mono ?_
  rintro e w2 ⟨rfl, rfl⟩
  go_wp2_with fail
  refine (inverse8_nil _ _ _ _).mono ?_
  rintro e w3 ⟨rfl, rfl⟩
  go_wp2_with fail
  refine (cauchy8_nil _ _ _).mono ?_
  rintro e w4 ⟨rfl, rfl⟩
  go_wp2_with fail
  refine (rank8_nil _ _ _ _).mono ?_
  rintro e w5 ⟨rfl, rfl⟩
  go_wp2
  go_ret
  exact ⟨rfl, HK.out⟩
end Go.Proofs.Ytmfbgogfefgglaa
