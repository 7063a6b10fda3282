/-
  Walk of the fixed fact that layer 10's laws ask first. No statement of the seed is proved here.
-/
import Derived.Test.YtboienifeciidaaDoorNm3
import Derived.Test.YtboienifeciidaaDoorNm4
namespace Go.Proofs.YtboienifeciidaaDoor
open Go.RowKit
set_option linter.unusedVariables false

theorem ex_runes : runesL [65, 108, 112, 104, 97, 32, 195, 169] = [65, 108, 112, 104, 97, 32, 233] := by
  have h := runesL_enc (enc_two 195 169 (by decide) (by decide) (by decide)) []
  rw [runesL_nil] at h
  rw [runesL_ascii _ _ (by decide), runesL_ascii _ _ (by decide), runesL_ascii _ _ (by decide), runesL_ascii _ _ (by decide), runesL_ascii _ _ (by decide), runesL_ascii _ _ (by decide)]
  rw [show ([195, 169] : List UInt8) = [195, 169] ++ [] from rfl, h]
  rfl
theorem ex_right : rightL [65, 108, 112, 104, 97, 32, 195, 169] = true := by
  rw [rightL_iff]
  refine ⟨?_, ?_, ?_, ?_, ?_⟩ <;> rw [ex_runes] <;> decide
theorem ex_plain : plainV (strL ⟨#[65, 108, 112, 104, 97, 32, 195, 169]⟩) = .tuple #[.string ⟨#[97, 108, 112, 104, 97, 32, 195, 169]⟩, .int .i64 0] := by
  rw [plainV_right (l := strL ⟨#[65, 108, 112, 104, 97, 32, 195, 169]⟩) ex_right]
  rfl
theorem ex_word : (.string ⟨(wordL (strL ⟨#[97, 47, 66]⟩)).toArray⟩ : Value) = .string ⟨#[97, 37, 50, 102, 37, 52, 50]⟩ := by
  have : wordL (strL ⟨#[97, 47, 66]⟩) = [97, 37, 50, 102, 37, 52, 50] := by decide +kernel
  rw [this]

set_option maxRecDepth 100000 in
set_option maxHeartbeats 1000000 in
theorem wakes10_any (w : World) : Calls Tryd.prog 4 #[] w fun e w' => e = .returned (.bool true) ∧ Kept [] w w' := by
  go_enter Tryd.func4, Tryd.ntmps4
  go_wp2_with (first | (go_at_call 7; refine (nPlain_any ⟨#[65, 108, 112, 104, 97, 32, 195, 169]⟩ _ (by decide)).mono ?_; rw [ex_plain]; rintro e w1 ⟨rfl, hk1⟩) | (go_at_call 8; refine (nWord_any ⟨#[97, 47, 66]⟩ _ (by decide)).mono ?_; rw [ex_word]; rintro e w2 ⟨rfl, hk2⟩))
  go_ret
  exact ⟨by rfl, hk1.andThen hk2⟩
end Go.Proofs.YtboienifeciidaaDoor
