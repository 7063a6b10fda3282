/-
  Walk of layer 8's law MatrixCauchy. No statement of the seed is proved here.
-/
import Derived.Test.YtmfbgogfefgglaaLaw8a
import Derived.Test.YtmfbgogfefgglaaR82
import Derived.Test.YtmfbgogfefgglaaM8u
namespace Go.Proofs.Ytmfbgogfefgglaa
open Go.RowKit
set_option linter.unusedVariables false

theorem cauchy8_both (y z : Int) : ∃ (L : List (List UInt8)) (E : Int), Hid (∀ (p : Nat) (w : World), TabAt w p → Calls Try.prog 23 #[.pointer (some ⟨p, 0, none⟩), .int .i64 y, .int .i64 z] w (LRet2 L E w)) ∧
    Hid (∀ (w : World), Calls Try.prog 24 #[.int .i64 y, .int .i64 z] w (LRet2 L E w)) := by
  by_cases h : 1 ≤ y ∧ y ≤ 255 ∧ 1 ≤ z ∧ z ≤ 255 ∧ y + z ≤ 256
  · obtain ⟨h1, h2, h3, h4, h5⟩ := h
    obtain ⟨n, rfl⟩ := Int.eq_ofNat_of_zero_le (show 0 ≤ y by omega)
    obtain ⟨k, rfl⟩ := Int.eq_ofNat_of_zero_le (show 0 ≤ z by omega)
    refine ⟨ofm n k (cau k), 0, Lib.hid fun p w hT => ?_, Lib.hid fun w => cauchyR8_any n k _ _ w rfl rfl (by omega) (by omega) (by omega) (by omega) (by omega)⟩
    refine (cauchy8_any p n k _ _ w hT rfl rfl (by omega) (by omega) (by omega) (by omega) (by omega)).mono ?_
    rintro e w1 ⟨R, G, off, rfl, hM, _, _, hk⟩
    exact ⟨_, _, _, rfl, hM.rdl (by unfold maxLen; omega) (by unfold maxLen; omega), hk⟩
  · refine ⟨[], 14, Lib.hid fun p w hT => ?_, Lib.hid fun w => cauchyR8_arg y z w (by omega)⟩
    refine (cauchy8_arg p y z w (by omega)).mono ?_
    rintro e w1 ⟨rfl, rfl⟩
    exact ⟨none, 0, 0, rfl, RdL.nil _, Kept.refl _ _⟩
theorem unit8_both (z : Int) : ∃ (L : List (List UInt8)), Hid (∀ (w : World), Calls Try.prog 25 #[.int .i64 z] w (LRet L w)) ∧ Hid (∀ (w : World), Calls Try.prog 22 #[.int .i64 z] w (LRet L w)) := by
  by_cases h : 1 ≤ z ∧ z ≤ 255
  · obtain ⟨n, rfl⟩ := Int.eq_ofNat_of_zero_le (show 0 ≤ z by omega)
    refine ⟨ofm n n un, Lib.hid fun w => ?_, Lib.hid fun w => unitR8_any n _ w rfl (by omega) (by omega)⟩
    refine (unit8_any n _ w rfl (by omega) (by omega)).mono ?_
    rintro e w1 ⟨R, G, off, rfl, hM, _, _, hk⟩
    exact ⟨_, _, _, rfl, hM.rdl (by unfold maxLen; omega) (by unfold maxLen; omega), hk⟩
  · refine ⟨[], Lib.hid fun w => ?_, Lib.hid fun w => unitR8_no z w (by omega)⟩
    refine (unit8_no z w (by omega)).mono ?_
    rintro e w1 ⟨rfl, rfl⟩
    exact ⟨none, 0, 0, rfl, RdL.nil _, Kept.refl _ _⟩

set_option maxRecDepth 100000 in
set_option maxHeartbeats 8000000 in
theorem cauchyL8_walk (y z : Int) (w : World) (hy : (Lit.int .i64 y).wf = true) (hz : (Lit.int .i64 z).wf = true) :
    Calls Try.prog 5 #[.int .i64 y, .int .i64 z] w fun e w' => e = .returned (.bool true) ∧ Kept [] w w' := by
  clear hy hz
  obtain ⟨L, E, HP, HD⟩ := cauchy8_both y z
  obtain ⟨U, HU, HV⟩ := unit8_both y
  have hcy : (40 < y ∧ y ≤ 255) ∨ y ≤ 40 ∨ 255 < y := by omega
  have hcz : (40 < z ∧ z ≤ 255) ∨ z ≤ 40 ∨ 255 < z := by omega
  rcases hcy with ⟨h1, h2⟩ | h1 | h1
  · clear hcz HP HD HU HV
    go_enter Try.func5, Try.ntmps5
    go_wp2_with fail
    refine (wakes8_any _).mono ?_
    rintro e w1 ⟨rfl, hk1⟩
    go_wp2
    go_ret
    exact ⟨rfl, hk1⟩
  all_goals
    rcases hcz with ⟨h3, h4⟩ | h3 | h3
    · clear HP HD HU HV
      go_enter Try.func5, Try.ntmps5
      go_wp2_with fail
      refine (wakes8_any _).mono ?_
      rintro e w1 ⟨rfl, hk1⟩
      go_wp2
      go_ret
      exact ⟨rfl, hk1⟩
    all_goals
      go_enter Try.func5, Try.ntmps5
      go_wp2_with fail
      refine (wakes8_any _).mono ?_
      rintro e w1 ⟨rfl, hk1⟩
      have HK1 := Lib.hid hk1
      clear hk1
      go_wp2_with fail
      refine (make7_any _).mono ?_
      rintro e w2 ⟨p, rfl, hT, hp, hk2⟩
      have HT := Lib.hid hT
      have HK2 := Lib.hid (HK1.out.andThen hk2)
      clear hT hp hk2 HK1
      go_wp2_with fail
      refine (HP.out p _ HT.out).mono ?_
      rintro e w3 ⟨A3, n3, c3, rfl, hm3, hk3⟩
      have HM3 := Lib.hid hm3
      have HK3 := Lib.hid (HK2.out.andThen hk3)
      clear hm3 hk3 HK2 HT HP
      go_wp2_with fail
      refine (HD.out _).mono ?_
      rintro e w4 ⟨A4, n4, c4, rfl, hm4, hk4⟩
      have HN4 := Lib.hid hm4
      have HM4 := Lib.hid (HM3.out.kept0 hk4)
      have HK4 := Lib.hid (HK3.out.andThen hk4)
      clear hm4 hk4 HK3 HM3 HD
      go_wp2_with fail
      refine (sameAll7_any _ _ _ _ _ _ _ _ HM4.out HN4.out).mono ?_
      rintro e w5 ⟨rfl, h5⟩
      have HK5 : Hid (Kept [] w w5) := Lib.hid (by obtain ⟨m, rfl⟩ := h5; exact HK4.out.drewN m)
      clear h5 HK4 HM4 HN4
      go_wp2_with fail
      refine (HU.out _).mono ?_
      rintro e w6 ⟨A6, n6, c6, rfl, hm6, hk6⟩
      have HM6 := Lib.hid hm6
      have HK6 := Lib.hid (HK5.out.andThen hk6)
      clear hm6 hk6 HK5 HU
      go_wp2_with fail
      refine (HV.out _).mono ?_
      rintro e w7 ⟨A7, n7, c7, rfl, hm7, hk7⟩
      have HN7 := Lib.hid hm7
      have HM7 := Lib.hid (HM6.out.kept0 hk7)
      have HK7 := Lib.hid (HK6.out.andThen hk7)
      clear hm7 hk7 HK6 HM6 HV
      go_wp2_with fail
      refine (sameAll7_any _ _ _ _ _ _ _ _ HM7.out HN7.out).mono ?_
      rintro e w8 ⟨rfl, h8⟩
      have HK8 : Hid (Kept [] w w8) := Lib.hid (by obtain ⟨m, rfl⟩ := h8; exact HK7.out.drewN m)
      clear h8 HK7 HM7 HN7
      go_wp2
      go_ret
      exact ⟨rfl, HK8.out⟩
end Go.Proofs.Ytmfbgogfefgglaa
