/-
  Contract of the comparison of bytes. No statement of the seed is proved here.
-/
import Derived.Test.YtmfbgogfefgglaaChecked
import Derived.Test.YtmfbgogfefgglaaMem
import Derived.Outline
import Derived.Deep.QuietTactic
import Derived.BigQuiet
namespace Go.Proofs.Ytmfbgogfefgglaa
open Go.RowKit
set_option linter.unusedVariables false

theorem same_yes (A A' : Option Addr) (n c c' : Nat) (bs : List UInt8) (w : World) (ha : RdB w A n c bs) (hb : RdB w A' n c' bs) :
    Calls Try.prog 31 #[.slice A n c, .slice A' n c'] w fun e w' => e = .returned (.bool true) ∧ ∃ m, w' = w.drewN m := by
  have hm := ha.cap
  have hm2 := ha.most
  unfold maxLen at hm2
  go_enter Try.func31, Try.ntmps31
  go_wp2
  go_loopw [5] (fun i wr => ∃ (k m : Nat), k ≤ n ∧ i = .int .i64 k ∧ wr = w.drewN m) (fun i _ => n - (intOf i).toNat)
  case atStart => exact ⟨0, 0, by omega, rfl, rfl⟩
  case round =>
    obtain ⟨k, m, hk, rfl, rfl⟩ := hrel
    by_cases hlt : k < n
    · have hl := ha.len
      obtain ⟨b, off, rfl, hbl, hc⟩ := ha.at_ (by omega)
      obtain ⟨b', off', rfl, hbl', hc'⟩ := hb.at_ (by omega)
      have c1 := hc k (by omega)
      have c2 := hc' k (by omega)
      generalize bs[k] = x at c1 c2
      have H := Lib.hid hl
      clear hl hc hc'
      unfold bcell at c1 c2
      go_wp2
      go_quiet (fail)
      go_wp2
      go_roundw
      case rel => exact ⟨k + 1, m + nq, by omega, by go_num, rfl⟩
      case measure => simp [intOf]; omega
    · go_wp2
      go_ret
      exact ⟨rfl, m, rfl⟩
end Go.Proofs.Ytmfbgogfefgglaa
