/-
  What the document of layer 12 hands out of a list of keys, what it leaves, what it tells. No statement of the seed is proved here.
-/
import Derived.Test.YtmhigipljplgdaaDoorKyM
namespace Go.Proofs.YtmhigipljplgdaaDoor
open Go.RowKit
set_option linter.unusedVariables false

/-- What the document hands out of ks, leaves of it, and tells, where z are wanted. -/
@[irreducible] def somE (z : Int) (m : Nat) : Int := if z < 0 then 14 else if (m : Int) < z then 8 else 0
@[irreducible] def somO (z : Int) (ks : Ks) : Ks := if somE z ks.length = 0 then ks.take z.toNat else []
@[irreducible] def somL (z : Int) (ks : Ks) : Ks := if somE z ks.length = 0 then ks.drop z.toNat else ks
theorem somE_arg {z : Int} (m : Nat) (h : z < 0) : somE z m = 14 := by unfold somE; rw [if_pos h]
theorem somE_few {z : Int} {m : Nat} (h : (m : Int) < z) : somE z m = 8 := by unfold somE; rw [if_neg (by omega), if_pos h]
theorem somE_ok {k m : Nat} (h : k ≤ m) : somE (k : Int) m = 0 := by unfold somE; rw [if_neg (by omega), if_neg (by omega)]
theorem som_no {z : Int} {ks : Ks} (h : somE z ks.length ≠ 0) : somO z ks = [] ∧ somL z ks = ks := by unfold somO somL; rw [if_neg h, if_neg h]; exact ⟨rfl, rfl⟩
theorem som_ok {k : Nat} {ks : Ks} (h : k ≤ ks.length) : somO (k : Int) ks = ks.take k ∧ somL (k : Int) ks = ks.drop k := by
  unfold somO somL
  rw [if_pos (somE_ok h), if_pos (somE_ok h), Int.toNat_natCast]
  exact ⟨rfl, rfl⟩
end Go.Proofs.YtmhigipljplgdaaDoor
