/-
  Walk of layer 8's law MatrixMul. No statement of the seed is proved here.
-/
import Derived.Test.YtmfbgogfefgglaaLaw8a
import Derived.Test.YtmfbgogfefgglaaR81
import Derived.Test.YtmfbgogfefgglaaR7c
namespace Go.Proofs.Ytmfbgogfefgglaa
open Go.RowKit
set_option linter.unusedVariables false

/-- Both products of any rows, the program's and the document's, are the same rows, with the same error. -/
theorem mul8_both (ls ms : List (List UInt8)) : ∃ (L : List (List UInt8)) (E : Int), Hid (∀ (p : Nat) (A : Option Addr) (n c : Nat) (A' : Option Addr) (n' c' : Nat) (w : World), TabAt w p → RdL w A n c ls → RdL w A' n' c' ms → Calls Try.prog 13 #[.pointer (some ⟨p, 0, none⟩), .slice A n c, .slice A' n' c'] w (LRet2 L E w)) ∧
    Hid (∀ (A : Option Addr) (n c : Nat) (A' : Option Addr) (n' c' : Nat) (w : World), RdL w A n c ls → RdL w A' n' c' ms → Calls Try.prog 15 #[.slice A n c, .slice A' n' c'] w (LRet2 L E w)) := by
  by_cases h : MulP ls ms
  · obtain ⟨n1, k, l, a, b, h1, h2, h3, h4, h5, h6, rfl, rfl⟩ := h
    refine ⟨ofm n1 l (mm k a b), 0, Lib.hid fun p A n c A' n' c' w hT ha hb => ?_, Lib.hid fun A n c A' n' c' w ha hb => ?_⟩
    · obtain rfl : n1 = n := by have := ha.len; rw [ofm_length] at this; exact this
      obtain rfl : k = n' := by have := hb.len; rw [ofm_length] at this; exact this
      refine (mul8_any p A n1 c A' c' k l a b w hT ha hb h1 h2 h3 h4 h5 h6).mono ?_
      rintro e w1 ⟨R, G, off, rfl, hM, _, _, hk⟩
      exact ⟨_, _, _, rfl, hM.rdl (by unfold maxLen; omega) (by unfold maxLen; omega), hk⟩
    · obtain rfl : n1 = n := by have := ha.len; rw [ofm_length] at this; exact this
      obtain rfl : k = n' := by have := hb.len; rw [ofm_length] at this; exact this
      exact mulR8_any A n1 c A' c' k l a b w ha hb h1 h2 h3 h4 h5 h6
  · refine ⟨[], 14, Lib.hid fun p A n c A' n' c' w hT ha hb => ?_, Lib.hid fun A n c A' n' c' w ha hb => ?_⟩
    · refine (mul8_arg p A n c A' n' c' ls ms w ha hb h).mono ?_
      rintro e w1 ⟨rfl, rfl⟩
      exact ⟨none, 0, 0, rfl, RdL.nil _, Kept.refl _ _⟩
    · exact mulR8_arg A n c A' n' c' ls ms w ha hb h

set_option maxRecDepth 100000 in
set_option maxHeartbeats 8000000 in
theorem mulL8_walk (A : Option Addr) (n c : Nat) (la : List (List UInt8)) (A' : Option Addr) (n' c' : Nat) (lb : List (List UInt8)) (w : World) (ha : RdL w A n c la) (hb : RdL w A' n' c' lb) :
    Calls Try.prog 3 #[.slice A n c, .slice A' n' c'] w fun e w' => e = .returned (.bool true) ∧ Kept [] w w' := by
  have HA := Lib.hid ha
  have HB := Lib.hid hb
  clear ha hb
  obtain ⟨L, E, HP, HD⟩ := mul8_both la lb
  go_enter Try.func3, Try.ntmps3
  go_wp2_with fail
  refine (wakes8_any _).mono ?_
  rintro e w1 ⟨rfl, hk1⟩
  have HK1 := Lib.hid hk1
  clear hk1
  go_wp2_with fail
  refine (long8_any _ _ _ la _ (HA.out.kept0 HK1.out)).mono ?_
  rintro e w1 ⟨q1, rfl, rfl, H1⟩
  cases q1 with
  | true =>
    go_wp2
    go_ret
    exact ⟨rfl, HK1.out⟩
  | false =>
  go_wp2_with fail
  refine (long8_any _ _ _ lb _ (HB.out.kept0 HK1.out)).mono ?_
  rintro e w1 ⟨q1, rfl, rfl, H2⟩
  cases q1 with
  | true =>
    go_wp2
    go_ret
    exact ⟨rfl, HK1.out⟩
  | false =>
  go_wp2_with fail
  refine (copyAll7_any _ _ _ la _ (HA.out.kept0 HK1.out) (by have := (H1.out trivial).1; omega) (fun l hl => by have := (H1.out trivial).2 l hl; omega)).mono ?_
  rintro e w2 ⟨A2, n2, c2, rfl, hx2, hk2⟩
  have HX2 := Lib.hid hx2
  have HK2 := Lib.hid (HK1.out.andThen hk2)
  clear hx2 hk2 HK1 H1
  go_wp2_with fail
  refine (copyAll7_any _ _ _ lb _ (HB.out.kept0 HK2.out) (by have := (H2.out trivial).1; omega) (fun l hl => by have := (H2.out trivial).2 l hl; omega)).mono ?_
  rintro e w3 ⟨A3, n3, c3, rfl, hy3, hk3⟩
  have HX3 := Lib.hid (HX2.out.kept0 hk3)
  have HY3 := Lib.hid hy3
  have HK3 := Lib.hid (HK2.out.andThen hk3)
  clear hy3 hk3 HK2 HX2 H2
  go_wp2_with fail
  refine (make7_any _).mono ?_
  rintro e w4 ⟨p, rfl, hT, hp, hk4⟩
  have HT4 := Lib.hid hT
  have HX4 := Lib.hid (HX3.out.kept0 hk4)
  have HY4 := Lib.hid (HY3.out.kept0 hk4)
  have HK4 := Lib.hid (HK3.out.andThen hk4)
  clear hT hp hk4 HK3 HX3 HY3
  go_wp2_with fail
  refine (HP.out p _ _ _ _ _ _ _ HT4.out HX4.out HY4.out).mono ?_
  rintro e w5 ⟨A5, n5, c5, rfl, hm5, hk5⟩
  have HM5 := Lib.hid hm5
  have HX5 := Lib.hid (HX4.out.kept0 hk5)
  have HY5 := Lib.hid (HY4.out.kept0 hk5)
  have HK5 := Lib.hid (HK4.out.andThen hk5)
  clear hm5 hk5 HK4 HX4 HY4 HT4 HP
  go_wp2_with fail
  refine (HD.out _ _ _ _ _ _ _ (HA.out.kept0 HK5.out) (HB.out.kept0 HK5.out)).mono ?_
  rintro e w6 ⟨A6, n6, c6, rfl, hm6, hk6⟩
  have HN6 := Lib.hid hm6
  have HM6 := Lib.hid (HM5.out.kept0 hk6)
  have HX6 := Lib.hid (HX5.out.kept0 hk6)
  have HY6 := Lib.hid (HY5.out.kept0 hk6)
  have HK6 := Lib.hid (HK5.out.andThen hk6)
  clear hm6 hk6 HK5 HX5 HY5 HM5 HD
  go_wp2_with fail
  refine (sameAll7_any _ _ _ _ _ _ _ _ HM6.out HN6.out).mono ?_
  rintro e w7 ⟨rfl, h7⟩
  have hk7 : Kept [] w6 w7 := by obtain ⟨m, rfl⟩ := h7; exact (Kept.refl [] w6).drewN m
  have HX7 := Lib.hid (HX6.out.kept0 hk7)
  have HY7 := Lib.hid (HY6.out.kept0 hk7)
  have HK7 := Lib.hid (HK6.out.andThen hk7)
  clear h7 hk7 HK6 HX6 HY6 HM6 HN6
  go_wp2_with fail
  refine (right8_any _ _ _ la _ (HA.out.kept0 HK7.out)).mono ?_
  rintro e w7 ⟨q1, rfl, rfl, HQ1⟩
  go_wp2_with fail
  refine (rightR8_any _ _ _ la _ (HA.out.kept0 HK7.out)).mono ?_
  rintro e w8 ⟨q2, rfl, h8, HQ2⟩
  have hk8 : Kept [] w7 w8 := by obtain ⟨m, rfl⟩ := h8; exact (Kept.refl [] w7).drewN m
  have HX8 := Lib.hid (HX7.out.kept0 hk8)
  have HY8 := Lib.hid (HY7.out.kept0 hk8)
  have HK8 := Lib.hid (HK7.out.andThen hk8)
  obtain rfl : q1 = q2 := Bool.eq_iff_iff.2 (HQ1.out.trans HQ2.out.symm)
  clear h8 hk8 HK7 HX7 HY7 HQ1 HQ2
  go_wp2_with fail
  refine (sameAll7_any _ _ _ _ _ _ _ _ HX8.out (HA.out.kept0 HK8.out)).mono ?_
  rintro e w9 ⟨rfl, h9⟩
  have hk9 : Kept [] w8 w9 := by obtain ⟨m, rfl⟩ := h9; exact (Kept.refl [] w8).drewN m
  have HY9 := Lib.hid (HY8.out.kept0 hk9)
  have HK9 := Lib.hid (HK8.out.andThen hk9)
  clear h9 hk9 HK8 HX8 HY8
  go_wp2_with fail
  refine (sameAll7_any _ _ _ _ _ _ _ _ HY9.out (HB.out.kept0 HK9.out)).mono ?_
  rintro e wa ⟨rfl, ha⟩
  have HKa : Hid (Kept [] w wa) := Lib.hid (by obtain ⟨m, rfl⟩ := ha; exact HK9.out.drewN m)
  clear ha HK9 HY9
  go_wp2
  go_ret
  exact ⟨rfl, HKa.out⟩
end Go.Proofs.Ytmfbgogfefgglaa
