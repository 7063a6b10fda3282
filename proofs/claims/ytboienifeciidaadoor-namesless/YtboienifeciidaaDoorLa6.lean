/-
  Walk of a law of layer 10: any text stands ahead of another one just where the document says; of three it goes on. No statement of the seed is proved here.
-/
import Derived.Test.YtboienifeciidaaDoorLa1
import Derived.Test.YtboienifeciidaaDoorNl1
import Derived.Test.YtboienifeciidaaDoorNl2
namespace Go.Proofs.YtboienifeciidaaDoor
open Go.RowKit
set_option linter.unusedVariables false

set_option maxRecDepth 100000 in
set_option maxHeartbeats 4000000 in
theorem less10_long (a b c : ByteArray) (w : World) (ha : a.size ≤ maxLen) (hb : b.size ≤ maxLen) (hc : c.size ≤ maxLen) (h : 300 < a.size ∨ (a.size ≤ 300 ∧ 300 < b.size) ∨ (a.size ≤ 300 ∧ b.size ≤ 300 ∧ 300 < c.size)) :
    Calls Tryd.prog 3 #[.string a, .string b, .string c] w fun e w' => e = .returned (.bool true) ∧ Kept [] w w' := by
  unfold maxLen at ha hb hc
  rcases h with h | ⟨h, h2⟩ | ⟨h, h2, h3⟩
  all_goals
    go_enter Tryd.func3, Tryd.ntmps3
    go_wp2_with (go_at_call 4; refine (wakes10_any _).mono ?_; rintro e w1 ⟨rfl, hk1⟩)
    go_ret
    exact ⟨rfl, hk1⟩

set_option maxRecDepth 100000 in
set_option maxHeartbeats 8000000 in
theorem less10_short (a b c : ByteArray) (w : World) (hT : Glob w) (ha : a.size ≤ 300) (hb : b.size ≤ 300) (hc : c.size ≤ 300) (ab ba bc ac : Bool) (Hab : Hid (lexL (runesL (strL a)) (runesL (strL b)) = ab)) (Hba : Hid (lexL (runesL (strL b)) (runesL (strL a)) = ba))
    (Hbc : Hid (lexL (runesL (strL b)) (runesL (strL c)) = bc)) (Hac : Hid (lexL (runesL (strL a)) (runesL (strL c)) = ac)) (h1 : (ab && ba) = false) (h2 : ab = true → bc = true → ac = true) :
    Calls Tryd.prog 3 #[.string a, .string b, .string c] w fun e w' => e = .returned (.bool true) ∧ Kept [] w w' := by
  have Haa : Hid (lexL (runesL (strL a)) (runesL (strL a)) = false) := Lib.hid (lexL_self _)
  have HG := Lib.hid hT
  clear hT
  cases ab with
  | false =>
    clear h1 h2
    go_enter Tryd.func3, Tryd.ntmps3
    go_wp2_with (first
      | (go_at_call 4; refine (wakes10_any _).mono ?_; rintro e w1 ⟨rfl, hk1⟩; have hkA := hk1)
      | (go_at_call 5; with_reducible change Calls _ _ #[.string a, .string b] _ _; refine (nLess_any a b _ (HG.out.kept0 hkA) (by omega) (by omega)).mono ?_; rw [Hab.out]; rintro e w2 ⟨rfl, hk2⟩; have hkA := hkA.andThen hk2)
      | (go_at_call 6; with_reducible change Calls _ _ #[.string a, .string b] _ _; refine (rLess_any a b _ (by omega) (by omega)).mono ?_; rw [Hab.out]; rintro e w2 ⟨rfl, hk2⟩; have hkA := hkA.andThen hk2)
      | (go_at_call 5; with_reducible change Calls _ _ #[.string b, .string a] _ _; refine (nLess_any b a _ (HG.out.kept0 hkA) (by omega) (by omega)).mono ?_; rw [Hba.out]; rintro e w2 ⟨rfl, hk2⟩; have hkA := hkA.andThen hk2)
      | (go_at_call 5; with_reducible change Calls _ _ #[.string a, .string a] _ _; refine (nLess_any a a _ (HG.out.kept0 hkA) (by omega) (by omega)).mono ?_; rw [Haa.out]; rintro e w2 ⟨rfl, hk2⟩; have hkA := hkA.andThen hk2)
      | (go_at_call 5; with_reducible change Calls _ _ #[.string b, .string c] _ _; refine (nLess_any b c _ (HG.out.kept0 hkA) (by omega) (by omega)).mono ?_; rw [Hbc.out]; rintro e w2 ⟨rfl, hk2⟩; have hkA := hkA.andThen hk2)
      | (go_at_call 5; with_reducible change Calls _ _ #[.string a, .string c] _ _; refine (nLess_any a c _ (HG.out.kept0 hkA) (by omega) (by omega)).mono ?_; rw [Hac.out]; rintro e w2 ⟨rfl, hk2⟩; have hkA := hkA.andThen hk2))
    go_ret
    exact ⟨by rfl, hkA⟩
  | true =>
  obtain rfl : ba = false := by simpa using h1
  clear h1
  cases bc with
  | false =>
    clear h2
    go_enter Tryd.func3, Tryd.ntmps3
    go_wp2_with (first
      | (go_at_call 4; refine (wakes10_any _).mono ?_; rintro e w1 ⟨rfl, hk1⟩; have hkA := hk1)
      | (go_at_call 5; with_reducible change Calls _ _ #[.string a, .string b] _ _; refine (nLess_any a b _ (HG.out.kept0 hkA) (by omega) (by omega)).mono ?_; rw [Hab.out]; rintro e w2 ⟨rfl, hk2⟩; have hkA := hkA.andThen hk2)
      | (go_at_call 6; with_reducible change Calls _ _ #[.string a, .string b] _ _; refine (rLess_any a b _ (by omega) (by omega)).mono ?_; rw [Hab.out]; rintro e w2 ⟨rfl, hk2⟩; have hkA := hkA.andThen hk2)
      | (go_at_call 5; with_reducible change Calls _ _ #[.string b, .string a] _ _; refine (nLess_any b a _ (HG.out.kept0 hkA) (by omega) (by omega)).mono ?_; rw [Hba.out]; rintro e w2 ⟨rfl, hk2⟩; have hkA := hkA.andThen hk2)
      | (go_at_call 5; with_reducible change Calls _ _ #[.string a, .string a] _ _; refine (nLess_any a a _ (HG.out.kept0 hkA) (by omega) (by omega)).mono ?_; rw [Haa.out]; rintro e w2 ⟨rfl, hk2⟩; have hkA := hkA.andThen hk2)
      | (go_at_call 5; with_reducible change Calls _ _ #[.string b, .string c] _ _; refine (nLess_any b c _ (HG.out.kept0 hkA) (by omega) (by omega)).mono ?_; rw [Hbc.out]; rintro e w2 ⟨rfl, hk2⟩; have hkA := hkA.andThen hk2)
      | (go_at_call 5; with_reducible change Calls _ _ #[.string a, .string c] _ _; refine (nLess_any a c _ (HG.out.kept0 hkA) (by omega) (by omega)).mono ?_; rw [Hac.out]; rintro e w2 ⟨rfl, hk2⟩; have hkA := hkA.andThen hk2))
    go_ret
    exact ⟨by rfl, hkA⟩
  | true =>
    obtain rfl : ac = true := h2 rfl rfl
    clear h2
    go_enter Tryd.func3, Tryd.ntmps3
    go_wp2_with (first
      | (go_at_call 4; refine (wakes10_any _).mono ?_; rintro e w1 ⟨rfl, hk1⟩; have hkA := hk1)
      | (go_at_call 5; with_reducible change Calls _ _ #[.string a, .string b] _ _; refine (nLess_any a b _ (HG.out.kept0 hkA) (by omega) (by omega)).mono ?_; rw [Hab.out]; rintro e w2 ⟨rfl, hk2⟩; have hkA := hkA.andThen hk2)
      | (go_at_call 6; with_reducible change Calls _ _ #[.string a, .string b] _ _; refine (rLess_any a b _ (by omega) (by omega)).mono ?_; rw [Hab.out]; rintro e w2 ⟨rfl, hk2⟩; have hkA := hkA.andThen hk2)
      | (go_at_call 5; with_reducible change Calls _ _ #[.string b, .string a] _ _; refine (nLess_any b a _ (HG.out.kept0 hkA) (by omega) (by omega)).mono ?_; rw [Hba.out]; rintro e w2 ⟨rfl, hk2⟩; have hkA := hkA.andThen hk2)
      | (go_at_call 5; with_reducible change Calls _ _ #[.string a, .string a] _ _; refine (nLess_any a a _ (HG.out.kept0 hkA) (by omega) (by omega)).mono ?_; rw [Haa.out]; rintro e w2 ⟨rfl, hk2⟩; have hkA := hkA.andThen hk2)
      | (go_at_call 5; with_reducible change Calls _ _ #[.string b, .string c] _ _; refine (nLess_any b c _ (HG.out.kept0 hkA) (by omega) (by omega)).mono ?_; rw [Hbc.out]; rintro e w2 ⟨rfl, hk2⟩; have hkA := hkA.andThen hk2)
      | (go_at_call 5; with_reducible change Calls _ _ #[.string a, .string c] _ _; refine (nLess_any a c _ (HG.out.kept0 hkA) (by omega) (by omega)).mono ?_; rw [Hac.out]; rintro e w2 ⟨rfl, hk2⟩; have hkA := hkA.andThen hk2))
    go_ret
    exact ⟨by rfl, hkA⟩

theorem less10_walk (a b c : ByteArray) (w : World) (hT : Glob w) (ha : a.size ≤ maxLen) (hb : b.size ≤ maxLen) (hc : c.size ≤ maxLen) :
    Calls Tryd.prog 3 #[.string a, .string b, .string c] w fun e w' => e = .returned (.bool true) ∧ Kept [] w w' := by
  by_cases h : 300 < a.size ∨ (a.size ≤ 300 ∧ 300 < b.size) ∨ (a.size ≤ 300 ∧ b.size ≤ 300 ∧ 300 < c.size)
  · exact less10_long a b c w ha hb hc h
  · exact less10_short a b c w hT (by omega) (by omega) (by omega) _ _ _ _ (Lib.hid rfl) (Lib.hid rfl) (Lib.hid rfl) (Lib.hid rfl) (lexL_both _ _) (lexL_trans _ _ _)
end Go.Proofs.YtboienifeciidaaDoor
