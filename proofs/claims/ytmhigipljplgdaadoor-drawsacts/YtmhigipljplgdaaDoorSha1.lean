/-
  Contracts of the small functions of layer 2 (sha): a word turned, a word of bytes. No statement of the seed is proved here.
-/
import Derived.Test.YtmhigipljplgdaaDoorChecked
import Derived.Test.YtmhigipljplgdaaDoorMem
import Derived.Test.YtmhigipljplgdaaDoorWd
import Derived.Outline
import Derived.Deep.QuietTactic
import Derived.BigQuiet
namespace Go.Proofs.YtmhigipljplgdaaDoor
open Go.RowKit
set_option linter.unusedVariables false

theorem turn_any (x : W32) (n : Nat) (w : World) (h1 : 1 ≤ n) (h2 : n < 32) :
    Calls Tryd.prog 37 #[.int .u32 (wv x), .int .i64 n] w fun e w' => e = .returned (.int .u32 (wv (rotr x n))) ∧ ∃ m, w' = w.drewN m := by
  have b0 := wv_nonneg x
  have b1 := wv_lt x
  go_enter Tryd.func37, Tryd.ntmps37
  go_wp2
  go_quiet (fail)
  go_wp2
  go_ret
  exact ⟨ret_int (by rw [wv_shr, wv_shl, bits_orW]; rfl), nq, rfl⟩
theorem turn_at (x : W32) (n : Nat) (z : Int) (w : World) (hz : z = (n : Int)) (h1 : 1 ≤ n) (h2 : n < 32) :
    Calls Tryd.prog 37 #[.int .u32 (wv x), .int .i64 z] w fun e w' => e = .returned (.int .u32 (wv (rotr x n))) ∧ ∃ m, w' = w.drewN m := by
  subst hz; exact turn_any x n w h1 h2

theorem word_any (A : Option Addr) (n c : Nat) (bs : List UInt8) (w : World) (hr : RdB w A n c bs) (hn : 4 ≤ n) :
    Calls Tryd.prog 39 #[.slice A n c] w fun e w' => e = .returned (.int .u32 (wv (wd bs))) ∧ ∃ m, w' = w.drewN m := by
  obtain ⟨b0, off, y0, rfl, c0, h0, l0⟩ := hr.byte (k := 0) (by omega)
  obtain ⟨_, _, y1, e1, c1, h1, l1⟩ := hr.byte (k := 1) (by omega)
  obtain ⟨rfl, rfl⟩ : _ ∧ _ := by simpa using e1
  obtain ⟨_, _, y2, e2, c2, h2, l2⟩ := hr.byte (k := 2) (by omega)
  obtain ⟨rfl, rfl⟩ : _ ∧ _ := by simpa using e2
  obtain ⟨_, _, y3, e3, c3, h3, l3⟩ := hr.byte (k := 3) (by omega)
  obtain ⟨rfl, rfl⟩ : _ ∧ _ := by simpa using e3
  have hw4 : wd bs = wd [y0, y1, y2, y3] := by
    match bs, h0, h1, h2, h3 with
    | a :: b :: c :: d :: r, h0, h1, h2, h3 =>
      simp at h0 h1 h2 h3
      subst h0 h1 h2 h3
      simp [wd]
  have hcap := hr.cap
  rw [hw4]
  rw [Nat.add_zero] at c0
  clear e1 e2 e3 h0 h1 h2 h3 hw4
  go_enter Tryd.func39, Tryd.ntmps39
  go_wp2
  go_quiet (fail)
  go_wp2
  go_ret
  exact ⟨ret_int (word4 _ _ _ _), nq, rfl⟩
end Go.Proofs.YtmhigipljplgdaaDoor
