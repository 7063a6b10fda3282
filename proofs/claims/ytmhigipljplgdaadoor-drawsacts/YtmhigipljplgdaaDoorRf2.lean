/-
  Contracts of the document's own tables of layer 2, which it tells as texts. No statement of the seed is proved here.
-/
import Derived.Test.YtmhigipljplgdaaDoorRf1
import Derived.Lib.Strings
import Derived.Lib.Small
import Derived.Lib.Walk
namespace Go.Proofs.YtmhigipljplgdaaDoor
open Go.RowKit
set_option linter.unusedVariables false

/-- A hexadecimal digit's sign. -/
def hexS (n : Nat) : UInt8 := if n < 10 then UInt8.ofNat (48 + n) else UInt8.ofNat (87 + n)
/-- A word's j-th digit, the highest first. -/
def digW (x : W32) (j : Nat) : Nat := x.toNat / 16 ^ (7 - j) % 16
def hex8 (x : W32) : List UInt8 := [hexS (digW x 0), hexS (digW x 1), hexS (digW x 2), hexS (digW x 3), hexS (digW x 4), hexS (digW x 5), hexS (digW x 6), hexS (digW x 7)]
theorem hex8_get (x : W32) (j : Nat) (h : j < 8) : (hex8 x)[j]? = some (hexS (digW x j)) := by
  have : j = 0 ∨ j = 1 ∨ j = 2 ∨ j = 3 ∨ j = 4 ∨ j = 5 ∨ j = 6 ∨ j = 7 := by omega
  rcases this with rfl | rfl | rfl | rfl | rfl | rfl | rfl | rfl <;> rfl
theorem flat_get : ∀ (ws : List W32) (i j : Nat), j < 8 → i < ws.length → (ws.flatMap hex8)[8 * i + j]? = some (hexS (digW (ws.getD i 0) j))
  | [], i, j, _, h => by simp at h
  | x :: ws, 0, j, hj, _ => by
    rw [List.flatMap_cons, Nat.mul_zero, Nat.zero_add, List.getElem?_append_left (by simpa [hex8] using hj), hex8_get x j hj]
    rfl
  | x :: ws, i + 1, j, hj, h => by
    have hl : (hex8 x).length = 8 := rfl
    rw [List.flatMap_cons, List.getElem?_append_right (by omega), hl, show 8 * (i + 1) + j - 8 = 8 * i + j by omega, flat_get ws i j hj (by simpa using h)]
    rfl
/-- The first k digits of a word. -/
theorem top_step (x : W32) (k : Nat) (h : k < 8) : x.toNat / 16 ^ (8 - (k + 1)) = 16 * (x.toNat / 16 ^ (8 - k)) + digW x k := by
  have e : 8 - k = (7 - k) + 1 := by omega
  have e2 : 8 - (k + 1) = 7 - k := by omega
  unfold digW
  rw [e, e2, Nat.pow_succ, ← Nat.div_div_eq_div_mul]
  omega
theorem hexS_lo (n : Nat) (h : n < 10) : (hexS n).toNat = 48 + n := by unfold hexS; rw [if_pos h, ofNat_toNat]; omega
theorem hexS_hi (n : Nat) (h : 10 ≤ n) (h2 : n < 16) : (hexS n).toNat = 87 + n := by unfold hexS; rw [if_neg (by omega), ofNat_toNat]; omega
theorem string_get (S : ByteArray) (k : Nat) (b : UInt8) (h : S.data.toList[k]? = some b) : ∃ hk : k < S.size, S[k] = b := by
  obtain ⟨hk, e⟩ := List.getElem?_eq_some_iff.1 h
  have hk2 : k < S.data.size := by simpa using hk
  refine ⟨hk2, ?_⟩
  show S.data[k] = b
  rw [← e]
  simp

set_option maxRecDepth 100000 in
set_option maxHeartbeats 1000000 in
theorem rWord_any (S : ByteArray) (ws : List W32) (i : Nat) (w : World) (hS : S.data.toList = ws.flatMap hex8) (hi : i < ws.length) (hn : ws.length ≤ 1000) :
    Calls Tryd.prog 22 #[.string S, .int .i64 i] w fun e w' => e = .returned (.int .u32 (wv (ws.getD i 0))) ∧ w = w' := by
  go_enter Tryd.func22, Tryd.ntmps22
  go_wp2
  go_loop [5, 6] (fun v q => ∃ k : Nat, k ≤ 8 ∧ q = .int .i64 (8 * (i : Int) + k) ∧ v = .int .u32 (((ws.getD i 0).toNat / 16 ^ (8 - k) : Nat) : Int)) (fun _ q => 8 - (intOf q - 8 * (i : Int)).toNat)
  case atStart => exact ⟨0, by omega, by simp, by have := (ws.getD i 0).isLt; rw [Nat.div_eq_of_lt (by omega)]; rfl⟩
  case round =>
    obtain ⟨k, hk, rfl, rfl⟩ := hrel
    by_cases hlt : k < 8
    · obtain ⟨hk2, hb⟩ := string_get S (8 * i + k) _ (by rw [hS]; exact flat_get ws i k hlt hi)
      have hst := top_step (ws.getD i 0) k hlt
      have hd : digW (ws.getD i 0) k < 16 := Nat.mod_lt _ (by omega)
      have hbd : (ws.getD i 0).toNat / 16 ^ (8 - (k + 1)) < 4294967296 := Nat.lt_of_le_of_lt (Nat.div_le_self _ _) (ws.getD i 0).isLt
      rw [hst] at hbd
      generalize (ws.getD i 0).toNat / 16 ^ (8 - k) = y at *
      generalize digW (ws.getD i 0) k = d at *
      have Hst := Lib.hid hst
      by_cases hlo : d < 10
      · have h8 := hexS_lo d hlo
        rw [← hb] at h8
        clear hb hst hS
        go_wp2
        go_round
        case rel => exact ⟨k + 1, by omega, congrArg _ (by omega), by rw [Hst.out]; exact congrArg _ (by omega)⟩
        case measure => simp [intOf]; omega
      · have h8 := hexS_hi d (by omega) hd
        rw [← hb] at h8
        clear hb hst hS
        go_wp2
        go_round
        case rel => exact ⟨k + 1, by omega, congrArg _ (by omega), by rw [Hst.out]; exact congrArg _ (by omega)⟩
        case measure => simp [intOf]; omega
    · obtain rfl : k = 8 := by omega
      clear hS
      go_wp2
      go_ret
      refine ⟨ret_int ?_, rfl⟩
      rw [wv_eq]

/-- A text that tells these words. -/
def TextRet (ws : List W32) (w : World) (e : Ending) (w' : World) : Prop := ∃ S : ByteArray, e = .returned (.string S) ∧ S.data.toList = ws.flatMap hex8 ∧ w = w'
set_option maxRecDepth 100000 in
set_option maxHeartbeats 1000000 in
theorem rBegins_any (w : World) : Calls Tryd.prog 23 #[] w (TextRet st0.l w) := by
  go_enter Tryd.func23, Tryd.ntmps23
  go_wp2
  go_ret
  exact ⟨_, rfl, by decide +kernel, rfl⟩
set_option maxRecDepth 100000 in
set_option maxHeartbeats 1000000 in
theorem rRounds_any (w : World) : Calls Tryd.prog 30 #[] w (TextRet ks w) := by
  go_enter Tryd.func30, Tryd.ntmps30
  go_wp2
  go_ret
  exact ⟨_, rfl, by decide +kernel, rfl⟩
end Go.Proofs.YtmhigipljplgdaaDoor
