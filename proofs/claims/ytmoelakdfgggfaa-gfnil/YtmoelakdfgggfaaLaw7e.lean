/-
  Walk of layer 7's law GfNil. No statement of the seed is proved here.
-/
import Derived.Test.YtmoelakdfgggfaaLaw7a
import Derived.Test.YtmoelakdfgggfaaGf3s
import Derived.Test.YtmoelakdfgggfaaGf4
namespace Go.Proofs.Ytmoelakdfgggfaa
open Go.RowKit
set_option linter.unusedVariables false

set_option maxRecDepth 100000 in
set_option maxHeartbeats 4000000 in
theorem nil7_walk (za zb' n : Int) (w : World) (ha : (Lit.int .u8 za).wf = true) (hb : (Lit.int .u8 zb').wf = true) (hn : (Lit.int .i64 n).wf = true) :
    Calls Try.prog 7 #[.int .u8 za, .int .u8 zb', .int .i64 n] w fun e w' => e = .returned (.bool true) ∧ Kept [] w w' := by
  clear ha hb hn
  go_enter Try.func7, Try.ntmps7
  go_wp2_with fail
  refine (wakes7_any _).mono ?_
  rintro e w1 ⟨rfl, hk1⟩
  have HK := Lib.hid hk1
  clear hk1
  go_wp2_with fail
  refine (inv7_nil _ _).mono ?_
  rintro e w2 ⟨rfl, rfl⟩
  go_wp2_with fail
  refine (div7_nil _ _ _).mono ?_
  rintro e w3 ⟨rfl, rfl⟩
  go_wp2_with fail
  refine (sum7_nil _ _ _ _ _ _ _).mono ?_
  rintro e w4 ⟨rfl, rfl⟩
  go_wp2_with fail
  refine (mul7_nil _ _ _).mono ?_
  rintro e w5 ⟨rfl, rfl⟩
  go_wp2_with fail
  refine (exp7_nil _ _).mono ?_
  rintro e w6 ⟨rfl, rfl⟩
  go_wp2_with fail
  refine (scale7_nil _ _ _ _ _).mono ?_
  rintro e w7 ⟨rfl, rfl⟩
  go_wp2
  go_ret
  exact ⟨rfl, (((HK.out.alloc _).alloc _).alloc _).alloc _⟩
end Go.Proofs.Ytmoelakdfgggfaa
