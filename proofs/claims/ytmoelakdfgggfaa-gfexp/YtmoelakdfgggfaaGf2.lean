/-
  Contracts of layer 7 (gf): powers. No statement of the seed is proved here.
-/
import Derived.Test.YtmoelakdfgggfaaGf2i
import Derived.Test.YtmoelakdfgggfaaR7a
namespace Go.Proofs.Ytmoelakdfgggfaa
open Go.RowKit
set_option linter.unusedVariables false

theorem exp7_nil (n : Int) (w : World) : Calls Try.prog 16 #[.pointer none, .int .i64 n] w fun e w' => e = .returned (.int .u8 0) ∧ w' = w := by
  go_enter Try.func16, Try.ntmps16
  go_wp2
  go_ret
  exact ⟨rfl, rfl⟩
set_option maxHeartbeats 1000000 in
theorem exp7_any (p : Nat) (n : Int) (w : World) (hT : TabAt w p) :
    Calls Try.prog 16 #[.pointer (some ⟨p, 0, none⟩), .int .i64 n] w fun e w' => e = .returned (.int .u8 ((gpow n).toNat : Int)) ∧ w' = w := by
  obtain ⟨r, hr, h1, h2, h3⟩ := tmod_cases n
  obtain ⟨s, hs⟩ : ∃ s : Nat, r + 255 = (s : Int) := ⟨(r + 255).toNat, by omega⟩
  have hsl : (s : Int) < 510 := by omega
  have c1 := hT.exp s (by omega)
  have hg : gexp s = gpow n := by
    unfold gpow
    rw [h3, gexp_mod s]
    congr 1
    split <;> omega
  rw [hg] at c1
  generalize gpow n = x at *
  have hxb := x.toNat_lt
  clear hg h3 hT
  go_enter Try.func16, Try.ntmps16
  go_wp2
  go_ret
  exact ⟨rfl, rfl⟩

theorem exp7_v (p : Nat) (n r : Int) (w : World) (hT : TabAt w p) (hr : ((gpow n).toNat : Int) = r) :
    Calls Try.prog 16 #[.pointer (some ⟨p, 0, none⟩), .int .i64 n] w fun e w' => e = .returned (.int .u8 r) ∧ TabAt w' p ∧ Kept [] w w' :=
  (exp7_any p n w hT).mono fun e w' h => by
    obtain ⟨h1, rfl⟩ := h
    exact ⟨by rw [h1, hr], hT, Kept.refl [] _⟩
theorem expR7_v (n r : Int) (w : World) (hr : ((gpow n).toNat : Int) = r) :
    Calls Try.prog 17 #[.int .i64 n] w fun e w' => e = .returned (.int .u8 r) ∧ w' = w :=
  (expR7_any n w).mono fun e w' h => ⟨by rw [h.1, hr], h.2⟩
end Go.Proofs.Ytmoelakdfgggfaa
