/-
  Walk of the fixed fact that layer 7's laws ask first. No statement of the seed is proved here.
-/
import Derived.Test.YtmoelakdfgggfaaGf2
namespace Go.Proofs.Ytmoelakdfgggfaa
open Go.RowKit
set_option linter.unusedVariables false

theorem g80 : ((gmul 0x1d 0x80 2).toNat : Int) = 29 := by decide +kernel
theorem gp8 : ((gpow 8).toNat : Int) = 29 := by decide +kernel
theorem gp255 : ((gpow 255).toNat : Int) = 1 := by decide +kernel
set_option maxHeartbeats 1000000 in
theorem wakes7_any (w : World) : Calls Try.prog 9 #[] w fun e w' => e = .returned (.bool true) ∧ Kept [] w w' := by
  have H1 := Lib.hid g80
  have H2 := Lib.hid gp8
  go_enter Try.func9, Try.ntmps9
  go_wp2_with fail
  refine (make7_any _).mono ?_
  rintro e w2 ⟨p, rfl, hT, hp, hk2⟩
  have HT0 := Lib.hid hT
  have HK0 := Lib.hid hk2
  clear hT hp hk2
  go_wp2_with fail
  refine (mul7_v p 0x80 2 _ _ 29 _ HT0.out rfl rfl H1.out).mono ?_
  rintro e v1 ⟨rfl, t1, k1⟩
  have HT1 := Lib.hid t1
  have HK1 := Lib.hid (HK0.out.andThen k1)
  clear t1 k1 HT0 HK0
  go_wp2_with fail
  refine (exp7_v p 8 29 _ HT1.out H2.out).mono ?_
  rintro e v2 ⟨rfl, t2, k2⟩
  have HT2 := Lib.hid t2
  have HK2 := Lib.hid (HK1.out.andThen k2)
  clear t2 k2 HT1 HK1
  go_wp2
  go_ret
  exact ⟨rfl, HK2.out⟩
end Go.Proofs.Ytmoelakdfgggfaa
