/-
  Walk of a law of layer 10: any text is a name, has its plain form and as many runes as the document says. No statement of the seed is proved here.
-/
import Derived.Test.YtboienifeciidaaLa1
import Derived.Test.YtboienifeciidaaNr5
namespace Go.Proofs.Ytboienifeciidaa
open Go.RowKit
set_option linter.unusedVariables false

theorem plainV_form (l : List UInt8) : ∃ (p : ByteArray) (z : Int), plainV l = .tuple #[.string p, .int .i64 z] := by
  cases hR : rightL l with
  | true => exact ⟨_, _, plainV_right hR⟩
  | false => exact ⟨_, _, plainV_wrong hR⟩

set_option maxRecDepth 100000 in
set_option maxHeartbeats 4000000 in
theorem right10_walk (s : ByteArray) (w : World) (hs0 : s.size ≤ maxLen) : Calls Try.prog 3 #[.string s] w fun e w' => e = .returned (.bool true) ∧ Kept [] w w' := by
  unfold maxLen at hs0
  by_cases h1 : 500 < s.size
  · go_enter Try.func3, Try.ntmps3
    go_wp2_with (go_at_call 7; refine (wakes10_any _).mono ?_; rintro e w1 ⟨rfl, hk1⟩)
    go_ret
    exact ⟨rfl, hk1⟩
  have hs : s.size ≤ 1000000 := by omega
  obtain ⟨p, z, hp⟩ := plainV_form (strL s)
  have HP := Lib.hid hp
  obtain ⟨R, hR⟩ : ∃ R, rightL (strL s) = R := ⟨_, rfl⟩
  have HR := Lib.hid hR
  obtain ⟨N, hN⟩ : ∃ N, (runesL (strL s)).length = N := ⟨_, rfl⟩
  have HN := Lib.hid hN
  have HN2 : Hid ((rowsL (strL s)).length = N) := Lib.hid (by rw [rowsL_length, hN])
  clear hp hR hN
  go_enter Try.func3, Try.ntmps3
  cases R with
  | false =>
    go_wp2_with (first
      | (go_at_call 7; refine (wakes10_any _).mono ?_; rintro e w1 ⟨rfl, hk1⟩)
      | (go_at_call 8; refine (nPlain_any s _ hs).mono ?_; rw [HP.out]; rintro e w2 ⟨rfl, hk2⟩)
      | (go_at_call 9; refine (rPlain_any s _ hs).mono ?_; rw [HP.out]; rintro e w3 ⟨rfl, hk3⟩)
      | (go_at_call 10; refine (nRight_any s _ (by omega)).mono ?_; rw [HR.out]; rintro e w4 ⟨rfl, hk4⟩)
      | (go_at_call 11; refine (rRight_any s _ (by omega)).mono ?_; rw [HR.out]; rintro e w5 ⟨rfl, hk5⟩)
      | (go_at_call 12; refine (nRunes_any s _ (by omega)).mono ?_; rw [HN.out]; rintro e w6 ⟨rfl, hk6⟩)
      | (go_at_call 13; refine (rAll_any s _ (by omega)).mono ?_; rintro e w7 ⟨v, rfl, hO, hk7⟩; obtain ⟨A, c, rfl, _, _, _⟩ := hO.form; rw [HN2.out]))
    go_ret
    exact ⟨by simp, ((((((hk1.andThen hk2).andThen hk3).andThen hk4).andThen hk5).andThen hk6).andThen hk7)⟩
  | true =>
    go_wp2_with (first
      | (go_at_call 7; refine (wakes10_any _).mono ?_; rintro e w1 ⟨rfl, hk1⟩)
      | (go_at_call 8; refine (nPlain_any s _ hs).mono ?_; rw [HP.out]; rintro e w2 ⟨rfl, hk2⟩)
      | (go_at_call 9; refine (rPlain_any s _ hs).mono ?_; rw [HP.out]; rintro e w3 ⟨rfl, hk3⟩)
      | (go_at_call 10; refine (nRight_any s _ (by omega)).mono ?_; rw [HR.out]; rintro e w4 ⟨rfl, hk4⟩)
      | (go_at_call 11; refine (rRight_any s _ (by omega)).mono ?_; rw [HR.out]; rintro e w5 ⟨rfl, hk5⟩)
      | (go_at_call 12; refine (nRunes_any s _ (by omega)).mono ?_; rw [HN.out]; rintro e w6 ⟨rfl, hk6⟩)
      | (go_at_call 13; refine (rAll_any s _ (by omega)).mono ?_; rintro e w7 ⟨v, rfl, hO, hk7⟩; obtain ⟨A, c, rfl, _, _, _⟩ := hO.form; rw [HN2.out]))
    go_ret
    exact ⟨by simp, ((((((hk1.andThen hk2).andThen hk3).andThen hk4).andThen hk5).andThen hk6).andThen hk7)⟩
end Go.Proofs.Ytboienifeciidaa
