/-
  The walk of a law of layer 11: any length has the class, any class and number of slices the size, that the document says, or is refused. No statement of the seed is proved here.
-/
import Derived.Test.YtmjeojbdieaakaaLaw11a
namespace Go.Proofs.Ytmjeojbdieaakaa
open Go.RowKit
set_option linter.unusedVariables false

theorem rSiz_both (c k : Int) (w : World) : Calls Try.prog 8 #[.int .i64 c, .int .i64 k] w fun e w' => e = .returned (sizV c k) ∧ w = w' := by
  cases h : isCls c with
  | false => exact rSiz_no c k h w
  | true =>
    by_cases hk : k < 1 ∨ 255 < k
    · exact rSiz_few c k h hk w
    · obtain ⟨C, rfl⟩ : ∃ C : Nat, c = (C : Int) := ⟨c.toNat, by have := isCls_cases h; omega⟩
      obtain ⟨q, rfl⟩ : ∃ q : Nat, k = (q : Int) := ⟨k.toNat, by omega⟩
      exact rSiz_yes C q h (by omega) (by omega) w

set_option maxRecDepth 100000 in
set_option maxHeartbeats 2000000 in
theorem sizes11_walk (n c k : Int) (w : World) (hn : (Lit.int .i64 n).wf = true) (hc : (Lit.int .i64 c).wf = true) (hk : (Lit.int .i64 k).wf = true) :
    Calls Try.prog 3 #[.int .i64 n, .int .i64 c, .int .i64 k] w fun e w' => e = .returned (.bool true) ∧ Kept [] w w' := by
  obtain ⟨x, e1, hx, x1, x2, x3, x4⟩ := clsV_form n
  obtain ⟨y, e2, hy, y1, y2, y3, y4⟩ := sizV_form c k
  have HX := Lib.hid hx
  have HY := Lib.hid hy
  clear hx hy hn hc hk
  go_enter Try.func3, Try.ntmps3
  go_wp2_with fail
  refine (wakes11_any _).mono ?_
  rintro e w' ⟨rfl, rfl⟩
  go_wp2_with fail
  refine (aCls_any n _).mono ?_
  rw [HX.out]
  rintro e w' ⟨rfl, rfl⟩
  go_wp2_with fail
  refine (rCls_any n _).mono ?_
  rw [HX.out]
  rintro e w' ⟨rfl, rfl⟩
  go_wp2_with fail
  refine (aSiz_any c k _).mono ?_
  rw [HY.out]
  rintro e w' ⟨rfl, rfl⟩
  go_wp2_with fail
  refine (rSiz_both c k _).mono ?_
  rw [HY.out]
  rintro e w' ⟨rfl, rfl⟩
  go_wp2
  go_ret
  exact ⟨rfl, Kept.refl _ _⟩
end Go.Proofs.Ytmjeojbdieaakaa
