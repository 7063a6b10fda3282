/-
  Contract of the reader's End of layer 1 (bin), over this seat's program. No statement of the seed is proved here.
-/
import Derived.Test.YtibcjbelcplpjaaDoorRdN
namespace Go.Proofs.YtibcjbelcplpjaaDoor
open Go.RowKit
set_option linter.unusedVariables false

theorem rEnd_yes (r : Nat) (bs : List UInt8) (w : World) (hr : Rea w r bs bs.length) : Calls Tryd.prog 51 #[.pointer (some ⟨r, 0, none⟩)] w fun e w' => e = .returned (.int .i64 0) ∧ Kept [] w w' := by
  go_enter Tryd.func51, Tryd.ntmps51
  go_wp2_with fail
  refine (left_any r bs _ _ hr).mono ?_
  rintro e w' ⟨A, nl, c, d, rfl, rfl, hrd, hoff⟩
  obtain rfl : 0 = nl := by have := hrd.len; rw [List.length_drop] at this; omega
  go_wp2
  go_ret
  exact ⟨rfl, (Kept.refl [] w).drewN d⟩
theorem rEnd_no (r : Nat) (bs : List UInt8) (k : Nat) (w : World) (hr : Rea w r bs k) (hk : k < bs.length) : Calls Tryd.prog 51 #[.pointer (some ⟨r, 0, none⟩)] w fun e w' => e = .returned (.int .i64 2) ∧ Kept [] w w' := by
  go_enter Tryd.func51, Tryd.ntmps51
  go_wp2_with fail
  refine (left_any r bs _ _ hr).mono ?_
  rintro e w' ⟨A, nl, c, d, rfl, rfl, hrd, hoff⟩
  have hn : 0 < nl := by have := hrd.len; rw [List.length_drop] at this; omega
  go_wp2
  go_ret
  exact ⟨rfl, (Kept.refl [] w).drewN d⟩
end Go.Proofs.YtibcjbelcplpjaaDoor
