/-
  Walk of a law of layer 10: a plain form is a name, of as many runes, and its own plain form. No statement of the seed is proved here.
-/
import Derived.Test.YtboienifeciidaaLa1
namespace Go.Proofs.Ytboienifeciidaa
open Go.RowKit
set_option linter.unusedVariables false

set_option maxRecDepth 100000 in
set_option maxHeartbeats 4000000 in
theorem plain10_walk (s : ByteArray) (w : World) (hs0 : s.size ≤ maxLen) : Calls Try.prog 4 #[.string s] w fun e w' => e = .returned (.bool true) ∧ Kept [] w w' := by
  unfold maxLen at hs0
  by_cases h1 : 500 < s.size
  · go_enter Try.func4, Try.ntmps4
    go_wp2_with (go_at_call 7; refine (wakes10_any _).mono ?_; rintro e w1 ⟨rfl, hk1⟩)
    go_ret
    exact ⟨rfl, hk1⟩
  have hs : s.size ≤ 1000000 := by omega
  cases hR : rightL (strL s) with
  | false =>
    have HP := Lib.hid (plainV_wrong hR)
    clear hR
    go_enter Try.func4, Try.ntmps4
    go_wp2_with (first
      | (go_at_call 7; refine (wakes10_any _).mono ?_; rintro e w1 ⟨rfl, hk1⟩)
      | (go_at_call 8; refine (nPlain_any s _ hs).mono ?_; rw [HP.out]; rintro e w2 ⟨rfl, hk2⟩))
    go_ret
    exact ⟨by rfl, hk1.andThen hk2⟩
  | true =>
    obtain ⟨p, hp⟩ : ∃ p : ByteArray, (⟨((strL s).map lowB).toArray⟩ : ByteArray) = p := ⟨_, rfl⟩
    have hpl : strL p = (strL s).map lowB := by rw [← hp]; rfl
    have hps : p.size = s.size := by rw [← strL_length p, hpl, List.length_map, strL_length]
    have HP : Hid (plainV (strL s) = .tuple #[.string p, .int .i64 0]) := Lib.hid (by rw [plainV_right hR, hp])
    have HQ : Hid (plainV (strL p) = .tuple #[.string p, .int .i64 0]) := Lib.hid (by rw [hpl, plainV_right (right_low hR), low_low, hp])
    have HR : Hid (rightL (strL p) = true) := Lib.hid (by rw [hpl]; exact right_low hR)
    obtain ⟨N, hN⟩ : ∃ N, (runesL (strL s)).length = N := ⟨_, rfl⟩
    have hN24 : N ≤ 24 := by rw [← hN]; exact ((rightL_iff _).1 hR).most
    have HN := Lib.hid hN
    have HN2 : Hid ((runesL (strL p)).length = N) := Lib.hid (by rw [hpl, runesL_low, List.length_map, hN])
    have hps2 : p.size ≤ 1000000 := by omega
    clear hp hpl hps hR hN
    go_enter Try.func4, Try.ntmps4
    go_wp2_with (first
      | (go_at_call 7; refine (wakes10_any _).mono ?_; rintro e w1 ⟨rfl, hk1⟩)
      | (go_at_call 8; with_reducible change Calls _ _ #[.string s] _ _; refine (nPlain_any s _ hs).mono ?_; rw [HP.out]; rintro e w2 ⟨rfl, hk2⟩)
      | (go_at_call 8; with_reducible change Calls _ _ #[.string p] _ _; refine (nPlain_any p _ hps2).mono ?_; rw [HQ.out]; rintro e w3 ⟨rfl, hk3⟩; have hkA := (hk1.andThen hk2).andThen hk3)
      | (go_at_call 10; refine (nRight_any p _ (by omega)).mono ?_; rw [HR.out]; rintro e w4 ⟨rfl, hk4⟩; have hkA := hkA.andThen hk4)
      | (go_at_call 12; with_reducible change Calls _ _ #[.string p] _ _; refine (nRunes_any p _ (by omega)).mono ?_; rw [HN2.out]; rintro e w5 ⟨rfl, hk5⟩; have hkA := hkA.andThen hk5)
      | (go_at_call 12; with_reducible change Calls _ _ #[.string s] _ _; refine (nRunes_any s _ (by omega)).mono ?_; rw [HN.out]; rintro e w6 ⟨rfl, hk6⟩; have hkA := hkA.andThen hk6))
    go_ret
    exact ⟨by simp; omega, hkA⟩
end Go.Proofs.Ytboienifeciidaa
