/-
  The examples of layer 11 hold. No statement of the seed is proved here.
-/
import Derived.Test.YtmjeojbdieaakaaDoorAp1
namespace Go.Proofs.YtmjeojbdieaakaaDoor
open Go.RowKit
set_option linter.unusedVariables false

theorem clsV_form (n : Int) : ∃ x e : Int, clsV n = .tuple #[.int .i64 x, .int .i64 e] ∧ 0 ≤ x ∧ x ≤ 1024 ∧ 0 ≤ e ∧ e ≤ 14 := by
  by_cases h : 0 ≤ n ∧ n ≤ 1000
  · exact ⟨_, _, clsV_yes h.1 h.2, by omega, by have := clsN_le n.toNat; omega, by omega, by omega⟩
  · exact ⟨_, _, clsV_no (by omega), by omega, by omega, by omega, by omega⟩
theorem sizV_form (c k : Int) : ∃ x e : Int, sizV c k = .tuple #[.int .i64 x, .int .i64 e] ∧ 0 ≤ x ∧ x ≤ 2000 ∧ 0 ≤ e ∧ e ≤ 14 := by
  by_cases h : isCls c = true ∧ 1 ≤ k ∧ k ≤ 255
  · refine ⟨_, _, sizV_yes h.1 h.2.1 h.2.2, by omega, ?_, by omega, by omega⟩
    have h1 := isCls_cases h.1
    have h2 := (sizN_mul (c := c.toNat) (k := k.toNat) (by omega)).2
    have h3 : 1 * sizN c.toNat k.toNat ≤ k.toNat * sizN c.toNat k.toNat := Nat.mul_le_mul_right _ (by omega)
    omega
  · exact ⟨_, _, sizV_no h, by omega, by omega, by omega, by omega⟩

set_option maxRecDepth 100000 in
set_option maxHeartbeats 2000000 in
theorem wakes11_any (w : World) : Calls Tryd.prog 6 #[] w fun e w' => e = .returned (.bool true) ∧ w = w' := by
  have H1 : Hid (clsV 30 = .tuple #[.int .i64 32, .int .i64 0]) := Lib.hid (by rw [clsV_yes (by omega) (by omega)]; rfl)
  have H2 : Hid (clsV 31 = .tuple #[.int .i64 64, .int .i64 0]) := Lib.hid (by rw [clsV_yes (by omega) (by omega)]; rfl)
  have H3 : Hid (sizV 32 3 = .tuple #[.int .i64 27, .int .i64 0]) := Lib.hid (by rw [sizV_yes rfl (by omega) (by omega)]; rfl)
  go_enter Tryd.func6, Tryd.ntmps6
  go_wp2_with fail
  refine (aCls_any _ _).mono ?_
  rw [H1.out]
  rintro e w' ⟨rfl, rfl⟩
  go_wp2_with fail
  refine (aCls_any _ _).mono ?_
  rw [H2.out]
  rintro e w' ⟨rfl, rfl⟩
  go_wp2_with fail
  refine (aSiz_any _ _ _).mono ?_
  rw [H3.out]
  rintro e w' ⟨rfl, rfl⟩
  go_wp2
  go_ret
  exact ⟨rfl, rfl⟩
end Go.Proofs.YtmjeojbdieaakaaDoor
