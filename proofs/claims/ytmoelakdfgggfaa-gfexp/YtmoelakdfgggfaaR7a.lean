/-
  Contracts of the document's own answers for layer 7, going on: powers. No statement of the seed is proved here.
-/
import Derived.Test.YtmoelakdfgggfaaR7m
namespace Go.Proofs.Ytmoelakdfgggfaa
open Go.RowKit
set_option linter.unusedVariables false

theorem tmod_cases (n : Int) : ∃ r : Int, n.tmod 255 = r ∧ -255 < r ∧ r < 255 ∧ (n % 255).toNat = (if r < 0 then r + 255 else r).toNat := by
  refine ⟨_, rfl, ?_⟩
  rw [Int.tmod_eq_emod]
  split
  · rename_i h
    have h1 : 0 ≤ n % 255 := by omega
    have h2 : n % 255 < 255 := by omega
    simp
    refine ⟨by omega, by omega, ?_⟩
    rw [if_neg (by omega)]
  · rename_i h
    have h1 : 0 ≤ n % 255 := by omega
    have h2 : n % 255 < 255 := by omega
    have h3 : n % 255 ≠ 0 := fun e => h (.inr (Int.dvd_of_emod_eq_zero e))
    simp
    refine ⟨by omega, by omega, ?_⟩
    rw [if_pos (by omega)]

set_option maxHeartbeats 1000000 in
theorem expR7_any (n : Int) (w : World) : Calls Try.prog 17 #[.int .i64 n] w fun e w' => e = .returned (.int .u8 ((gpow n).toNat : Int)) ∧ w' = w := by
  obtain ⟨r, hr, h1, h2, h3⟩ := tmod_cases n
  have HG : Hid (gpow n = gexp (if r < 0 then r + 255 else r).toNat) := Lib.hid (by unfold gpow; rw [h3])
  rw [HG.out]
  clear h3 HG
  by_cases hneg : r < 0
  · rw [if_pos hneg]
    obtain ⟨s, hs⟩ : ∃ s : Nat, r + 255 = (s : Int) := ⟨(r + 255).toNat, by omega⟩
    rw [hs, Int.toNat_natCast]
    go_enter Try.func17, Try.ntmps17
    go_wp2
    go_loopw [4, 5] (fun y i wr => ∃ k : Nat, k ≤ s ∧ y = .int .u8 ((gexp k).toNat : Int) ∧ i = .int .i64 (k : Int) ∧ wr = w) (fun _ i _ => s - (intOf i).toNat)
    case atStart => exact ⟨0, by omega, rfl, rfl, rfl⟩
    case round =>
      obtain ⟨k, hk, rfl, rfl, rfl⟩ := hrel
      by_cases hlt : k < s
      · go_wp2_with fail
        refine (mulR7_any (gexp k) 2 _ _ _ rfl rfl).mono ?_
        rintro e w' ⟨rfl, rfl⟩
        go_wp2
        go_roundw
        case rel => exact ⟨k + 1, by omega, rfl, by go_num, trivial⟩
        case measure => simp [intOf]; omega
      · obtain rfl : s = k := by omega
        go_wp2
        go_ret
        exact ⟨rfl, rfl⟩
  · rw [if_neg hneg]
    obtain ⟨s, hs⟩ : ∃ s : Nat, r = (s : Int) := ⟨r.toNat, by omega⟩
    subst hs
    rw [Int.toNat_natCast]
    go_enter Try.func17, Try.ntmps17
    go_wp2
    go_loopw [4, 5] (fun y i wr => ∃ k : Nat, k ≤ s ∧ y = .int .u8 ((gexp k).toNat : Int) ∧ i = .int .i64 (k : Int) ∧ wr = w) (fun _ i _ => s - (intOf i).toNat)
    case atStart => exact ⟨0, by omega, rfl, rfl, rfl⟩
    case round =>
      obtain ⟨k, hk, rfl, rfl, rfl⟩ := hrel
      by_cases hlt : k < s
      · go_wp2_with fail
        refine (mulR7_any (gexp k) 2 _ _ _ rfl rfl).mono ?_
        rintro e w' ⟨rfl, rfl⟩
        go_wp2
        go_roundw
        case rel => exact ⟨k + 1, by omega, rfl, by go_num, trivial⟩
        case measure => simp [intOf]; omega
      · obtain rfl : s = k := by omega
        go_wp2
        go_ret
        exact ⟨rfl, rfl⟩
end Go.Proofs.Ytmoelakdfgggfaa
