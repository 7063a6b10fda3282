/-
  Contracts of layer 10 (names): a byte that stands for itself, a sign that may be, a sign made small. No statement of the seed is proved here.
-/
import Derived.Test.YtboienifeciidaaDoorBld
import Derived.Test.YtboienifeciidaaDoorRunW
import Derived.Outline
namespace Go.Proofs.YtboienifeciidaaDoor
open Go.RowKit
set_option linter.unusedVariables false

def selfZ (z : Int) : Bool := (decide (97 ≤ z) && decide (z ≤ 122)) || (decide (48 ≤ z) && decide (z ≤ 57))
theorem selfZ_byte (b : UInt8) : selfZ (b.toNat : Int) = selfB b := by
  unfold selfZ selfB
  rw [show decide ((97 : Int) ≤ b.toNat) = decide (97 ≤ b.toNat) from decide_eq_decide.2 (by omega), show decide ((b.toNat : Int) ≤ 122) = decide (b.toNat ≤ 122) from decide_eq_decide.2 (by omega),
    show decide ((48 : Int) ≤ b.toNat) = decide (48 ≤ b.toNat) from decide_eq_decide.2 (by omega), show decide ((b.toNat : Int) ≤ 57) = decide (b.toNat ≤ 57) from decide_eq_decide.2 (by omega)]
def signZ (z : Int) : Bool := decide (32 ≤ z) && (decide (z < 127) || decide (159 < z)) && !decide (z = 47) && !decide (z = 65533)
theorem signZ_rune (c : Nat) : signZ (c : Int) = signOk c := by
  unfold signZ signOk
  rw [show decide ((32 : Int) ≤ c) = decide (32 ≤ c) from decide_eq_decide.2 (by omega), show decide ((c : Int) < 127) = !decide (127 ≤ c) by rw [← decide_not]; exact decide_eq_decide.2 (by omega),
    show decide ((159 : Int) < c) = !decide (c ≤ 159) by rw [← decide_not]; exact decide_eq_decide.2 (by omega), show decide (c ≠ 47) = !decide ((c : Int) = 47) by rw [← decide_not]; exact decide_eq_decide.2 (by omega), show decide (c ≠ 65533) = !decide ((c : Int) = 65533) by rw [← decide_not]; exact decide_eq_decide.2 (by omega), Bool.not_and]
def lowZ (z : Int) : Int := if 65 ≤ z ∧ z ≤ 90 then z + 32 else z
theorem lowZ_rune (c : Nat) : lowZ (c : Int) = (lowN c : Nat) := by unfold lowZ lowN; split <;> split <;> omega

theorem nSelf_any (z : Int) (w : World) : Calls Tryd.prog 15 #[.int .u8 z] w fun e w' => e = .returned (.bool (selfZ z)) ∧ w = w' := by
  rcases (by omega : z < 48 ∨ (48 ≤ z ∧ z ≤ 57) ∨ (57 < z ∧ z < 97) ∨ (97 ≤ z ∧ z ≤ 122) ∨ 122 < z) with h | h | h | h | h
  · have h1 : ¬ 97 ≤ z := by omega
    have h2 : ¬ 48 ≤ z := by omega
    go_enter Tryd.func15, Tryd.ntmps15
    go_wp2
    go_ret
    exact ⟨by simp [selfZ] <;> omega, rfl⟩
  · have h1 : ¬ 97 ≤ z := by omega
    have h2 : 48 ≤ z := by omega
    have h3 : z ≤ 57 := by omega
    go_enter Tryd.func15, Tryd.ntmps15
    go_wp2
    go_ret
    exact ⟨by simp [selfZ] <;> omega, rfl⟩
  · have h1 : ¬ 97 ≤ z := by omega
    have h2 : 48 ≤ z := by omega
    have h3 : ¬ z ≤ 57 := by omega
    go_enter Tryd.func15, Tryd.ntmps15
    go_wp2
    go_ret
    exact ⟨by simp [selfZ] <;> omega, rfl⟩
  · have h1 : 97 ≤ z := by omega
    have h2 : z ≤ 122 := by omega
    go_enter Tryd.func15, Tryd.ntmps15
    go_wp2
    go_ret
    exact ⟨by simp [selfZ] <;> omega, rfl⟩
  · have h1 : 97 ≤ z := by omega
    have h2 : ¬ z ≤ 122 := by omega
    have h3 : 48 ≤ z := by omega
    have h4 : ¬ z ≤ 57 := by omega
    go_enter Tryd.func15, Tryd.ntmps15
    go_wp2
    go_ret
    exact ⟨by simp [selfZ] <;> omega, rfl⟩

theorem nSign_any (z : Int) (w : World) : Calls Tryd.prog 19 #[.int .i32 z] w fun e w' => e = .returned (.bool (signZ z)) ∧ w = w' := by
  rcases (by omega : z < 32 ∨ z = 47 ∨ (32 ≤ z ∧ z < 127 ∧ z ≠ 47) ∨ (127 ≤ z ∧ z ≤ 159) ∨ 159 < z) with h | h | h | h | h
  · have h1 : ¬ 32 ≤ z := by omega
    go_enter Tryd.func19, Tryd.ntmps19
    go_wp2
    go_ret
    exact ⟨by simp [signZ] <;> omega, rfl⟩
  · subst h
    go_enter Tryd.func19, Tryd.ntmps19
    go_wp2
    go_ret
    exact ⟨by simp [signZ] <;> omega, rfl⟩
  · have h1 : 32 ≤ z := by omega
    have h2 : z < 127 := by omega
    have h3 : ¬ z = 47 := by omega
    go_enter Tryd.func19, Tryd.ntmps19
    go_wp2
    go_ret
    have e : signZ z = !decide (z = 65533) := by unfold signZ; rw [decide_eq_true h1, decide_eq_true h2, decide_eq_false h3]; rfl
    exact ⟨by rw [e]; simp; rw [show (z != 47) = true from bne_iff_ne.2 h3, Bool.true_and]; rfl, rfl⟩
  · have h1 : 32 ≤ z := by omega
    have h2 : ¬ z < 127 := by omega
    have h3 : ¬ 159 < z := by omega
    go_enter Tryd.func19, Tryd.ntmps19
    go_wp2
    go_ret
    exact ⟨by simp [signZ] <;> omega, rfl⟩
  · have h1 : 32 ≤ z := by omega
    have h2 : ¬ z < 127 := by omega
    have h3 : 159 < z := by omega
    have h4 : ¬ z = 47 := by omega
    go_enter Tryd.func19, Tryd.ntmps19
    go_wp2
    go_ret
    have e : signZ z = !decide (z = 65533) := by unfold signZ; rw [decide_eq_true h1, decide_eq_true h3, decide_eq_false h4, Bool.or_true]; rfl
    exact ⟨by rw [e]; simp; rw [show (z != 47) = true from bne_iff_ne.2 h4, Bool.true_and]; rfl, rfl⟩

theorem nPlainSign_any (z : Int) (h0 : 0 ≤ z) (hm : z ≤ 2147483647) (w : World) : Calls Tryd.prog 13 #[.int .i32 z] w fun e w' => e = .returned (.int .i32 (lowZ z)) ∧ w = w' := by
  rcases (by omega : z < 65 ∨ (65 ≤ z ∧ z ≤ 90) ∨ 90 < z) with h | h | h
  · have h1 : ¬ 65 ≤ z := by omega
    go_enter Tryd.func13, Tryd.ntmps13
    go_wp2
    go_ret
    exact ⟨by unfold lowZ; rw [if_neg (by omega)]; rfl, rfl⟩
  · obtain ⟨h1, h2⟩ := h
    go_enter Tryd.func13, Tryd.ntmps13
    go_wp2
    go_ret
    exact ⟨by unfold lowZ; rw [if_pos ⟨h1, h2⟩, show z - 65 + 97 = z + 32 by omega]; rfl, rfl⟩
  · have h1 : 65 ≤ z := by omega
    have h2 : ¬ z ≤ 90 := by omega
    go_enter Tryd.func13, Tryd.ntmps13
    go_wp2
    go_ret
    exact ⟨by unfold lowZ; rw [if_neg (by omega)]; rfl, rfl⟩
end Go.Proofs.YtboienifeciidaaDoor
