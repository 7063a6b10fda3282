/-
  Contracts of layer 11, the document's own: the class, a slice's size. No statement of the seed is proved here.
-/
import Derived.Test.YtmjeojbdieaakaaDoorChecked
import Derived.Test.YtmjeojbdieaakaaDoorAoM
import Derived.Test.YtmjeojbdieaakaaDoorPb
namespace Go.Proofs.YtmjeojbdieaakaaDoor
open Go.RowKit
set_option linter.unusedVariables false

@[irreducible] def clsV (n : Int) : Value := if 0 ≤ n ∧ n ≤ 1000 then .tuple #[.int .i64 (clsN n.toNat : Nat), .int .i64 0] else .tuple #[.int .i64 0, .int .i64 3]
theorem clsV_yes {n : Int} (h0 : 0 ≤ n) (h1 : n ≤ 1000) : clsV n = .tuple #[.int .i64 (clsN n.toNat : Nat), .int .i64 0] := by unfold clsV; rw [if_pos ⟨h0, h1⟩]
theorem clsV_no {n : Int} (h : n < 0 ∨ 1000 < n) : clsV n = .tuple #[.int .i64 0, .int .i64 3] := by unfold clsV; rw [if_neg (by omega)]
@[irreducible] def sizV (c k : Int) : Value := if isCls c = true ∧ 1 ≤ k ∧ k ≤ 255 then .tuple #[.int .i64 (sizN c.toNat k.toNat : Nat), .int .i64 0] else .tuple #[.int .i64 0, .int .i64 14]
theorem sizV_yes {c k : Int} (h : isCls c = true) (h0 : 1 ≤ k) (h1 : k ≤ 255) : sizV c k = .tuple #[.int .i64 (sizN c.toNat k.toNat : Nat), .int .i64 0] := by unfold sizV; rw [if_pos ⟨h, h0, h1⟩]
theorem sizV_no {c k : Int} (h : ¬ (isCls c = true ∧ 1 ≤ k ∧ k ≤ 255)) : sizV c k = .tuple #[.int .i64 0, .int .i64 14] := by unfold sizV; rw [if_neg h]

set_option maxRecDepth 100000 in
set_option maxHeartbeats 2000000 in
theorem rCls_any (n : Int) (w : World) : Calls Tryd.prog 29 #[.int .i64 n] w fun e w' => e = .returned (clsV n) ∧ w = w' := by
  rcases (by omega : n < 0 ∨ 1000 < n ∨ (0 ≤ n ∧ n ≤ 1000)) with h | h | ⟨h0, h1⟩
  · rw [clsV_no (.inl h)]
    go_enter Tryd.func29, Tryd.ntmps29
    go_wp2
    go_ret2
    exact ⟨rfl, rfl⟩
  · rw [clsV_no (.inr h)]
    have h2 : ¬ n < 0 := by omega
    go_enter Tryd.func29, Tryd.ntmps29
    go_wp2
    go_ret2
    exact ⟨rfl, rfl⟩
  · obtain ⟨R, hR⟩ : ∃ R, ((clsN n.toNat : Nat) : Int) = R := ⟨_, rfl⟩
    rw [clsV_yes h0 h1, hR]
    have HR := Lib.hid hR
    clear hR
    go_enter Tryd.func29, Tryd.ntmps29
    go_wp2
    go_loopw [4] (fun c wr => ∃ z : Int, (32 ≤ z ∧ z ≤ 1024) ∧ c = .int .i64 z ∧ w = wr ∧ Hid ((z = 32 ∨ z = 64 ∨ z = 128 ∨ z = 256 ∨ z = 512 ∨ z = 1024) ∧ (z = 32 ∨ z < 2 * n + 4))) (fun c _ => (2048 - intOf c).toNat)
    case atStart => exact ⟨32, by omega, rfl, rfl, Lib.hid (by omega)⟩
    case round =>
      obtain ⟨z, ⟨z0, z1⟩, rfl, rfl, Hz⟩ := hrel
      by_cases hp : z - 2 < n
      · have Hz2 : Hid ((2 * z = 32 ∨ 2 * z = 64 ∨ 2 * z = 128 ∨ 2 * z = 256 ∨ 2 * z = 512 ∨ 2 * z = 1024) ∧ (2 * z = 32 ∨ 2 * z < 2 * n + 4)) := Lib.hid (by have := Hz.out; omega)
        have hb : 2 * z ≤ 1024 := by have := Hz2.out; omega
        clear Hz
        go_wp2
        go_roundw
        case rel => exact ⟨2 * z, by omega, rfl, trivial, Hz2⟩
        case measure => simp [intOf]; omega
      · have Hf : Hid (z = R) := Lib.hid (by
          rw [← HR.out]
          have := Hz.out
          unfold clsN
          repeat' split
          all_goals omega)
        clear Hz
        go_wp2
        go_ret2
        exact ⟨by rw [← Hf.out] <;> rfl, rfl⟩

set_option maxRecDepth 100000 in
set_option maxHeartbeats 4000000 in
theorem rSiz_no (c k : Int) (h : isCls c = false) (w : World) : Calls Tryd.prog 30 #[.int .i64 c, .int .i64 k] w fun e w' => e = .returned (sizV c k) ∧ w = w' := by
  rw [sizV_no (fun g => by rw [h] at g; exact absurd g.1 (by simp))]
  unfold isCls at h
  simp only [Bool.or_eq_false_iff, decide_eq_false_iff_not] at h
  have p1 : (c == 32) = false := by simpa using h.1.1.1.1.1
  have p2 : (c == 64) = false := by simpa using h.1.1.1.1.2
  have p3 : (c == 128) = false := by simpa using h.1.1.1.2
  have p4 : (c == 256) = false := by simpa using h.1.1.2
  have p5 : (c == 512) = false := by simpa using h.1.2
  have p6 : (c == 1024) = false := by simpa using h.2
  clear h
  go_enter Tryd.func30, Tryd.ntmps30
  go_wp2
  go_ret2
  exact ⟨rfl, rfl⟩
set_option maxRecDepth 100000 in
set_option maxHeartbeats 4000000 in
theorem rSiz_few (c k : Int) (h : isCls c = true) (hk : k < 1 ∨ 255 < k) (w : World) : Calls Tryd.prog 30 #[.int .i64 c, .int .i64 k] w fun e w' => e = .returned (sizV c k) ∧ w = w' := by
  rw [sizV_no (by omega)]
  rcases isCls_cases h with rfl | rfl | rfl | rfl | rfl | rfl
  all_goals
    clear h
    rcases hk with hk | hk
    · go_enter Tryd.func30, Tryd.ntmps30
      go_wp2
      go_ret2
      exact ⟨rfl, rfl⟩
    · have hk1 : ¬ k < 1 := by omega
      go_enter Tryd.func30, Tryd.ntmps30
      go_wp2
      go_ret2
      exact ⟨rfl, rfl⟩
set_option maxRecDepth 100000 in
set_option maxHeartbeats 8000000 in
theorem rSiz_yes (c k : Nat) (h : isCls c = true) (hk1 : 1 ≤ k) (hk2 : k ≤ 255) (w : World) : Calls Tryd.prog 30 #[.int .i64 c, .int .i64 k] w fun e w' => e = .returned (sizV c k) ∧ w = w' := by
  obtain ⟨R, hR⟩ : ∃ R, ((sizN c k : Nat) : Int) = R := ⟨_, rfl⟩
  rw [sizV_yes h (by omega) (by omega), Int.toNat_natCast, Int.toNat_natCast, hR]
  obtain ⟨m, hm⟩ : ∃ m, c + 48 = m := ⟨_, rfl⟩
  have hm2 : m ≤ 1072 := by have := isCls_cases h; omega
  have HR : Hid (∀ j, m ≤ j → (∀ i, m ≤ i → i < j → i % k ≠ 0) → j % k = 0 → ((j / k : Nat) : Int) = R) := Lib.hid (fun j h1 h2 h3 => by
    rw [← hR]
    have := least_mult hk1 h1 h2 h3
    rw [this, Nat.mul_div_cancel_left _ (by omega), ← hm]
    rfl)
  have hc := isCls_cases h
  have Hlt : Hid (∀ j, m ≤ j → (∀ i, m ≤ i → i < j → i % k ≠ 0) → j % k ≠ 0 → j < m + k) := Lib.hid (fun j h1 h2 h3 => by
    by_cases hj : j < m + k
    · exact hj
    · exfalso
      have q1 := Nat.div_add_mod (m + (k - 1)) k
      have q2 := Nat.mod_lt (m + (k - 1)) (show k > 0 by omega)
      generalize (m + (k - 1)) / k = q at *
      exact h2 (k * q) (by omega) (by omega) (Nat.mul_mod_right k q))
  clear hR h
  rcases (by omega : c = 32 ∨ c = 64 ∨ c = 128 ∨ c = 256 ∨ c = 512 ∨ c = 1024) with rfl | rfl | rfl | rfl | rfl | rfl
  all_goals
    clear hc
    have hk0 : ¬ (k : Int) = 0 := by omega
    go_enter Tryd.func30, Tryd.ntmps30
    go_wp2
    go_loopw [7] (fun n wr => ∃ j : Nat, m ≤ j ∧ j ≤ m + k ∧ n = .int .i64 (j : Int) ∧ w = wr ∧ Hid (∀ i, m ≤ i → i < j → i % k ≠ 0)) (fun n _ => (m + k + 1 - (intOf n).toNat))
    case atStart => exact ⟨m, by omega, by omega, by rw [← hm] <;> rfl, rfl, Lib.hid (by omega)⟩
    case round =>
      obtain ⟨j, j0, j1, rfl, rfl, Hj⟩ := hrel
      by_cases hp : j % k = 0
      · have hp2 : (j : Int) % (k : Int) = 0 := by omega
        have Hf : Hid (wrap64 ((j : Int) / (k : Int)) = R) := Lib.hid (by
          rw [← HR.out j j0 Hj.out hp]
          have h1 := Nat.div_le_self j k
          have h3 : (0 : Int) ≤ (j : Int) / (k : Int) := Int.ediv_nonneg (by omega) (by omega)
          have h4 : ((j / k : Nat) : Int) = (j : Int) / (k : Int) := by omega
          rw [h4]
          exact IntWalk.wrap64_in _ (by omega))
        go_wp2
        go_ret2
        exact ⟨by rw [← Hf.out] <;> rfl, rfl⟩
      · have hlt := Hlt.out j j0 Hj.out hp
        have hp2 : ¬ (j : Int) % (k : Int) = 0 := by omega
        have Hn : Hid (∀ i, m ≤ i → i < j + 1 → i % k ≠ 0) := Lib.hid (fun i g1 g2 => by
          rcases Nat.lt_or_ge i j with h | h
          · exact Hj.out i g1 h
          · rw [(by omega : i = j)]; exact hp)
        clear hp Hj
        go_wp2
        go_roundw
        case rel => exact ⟨j + 1, by omega, by omega, rfl, trivial, Hn⟩
        case measure => simp [intOf]; omega
end Go.Proofs.YtmjeojbdieaakaaDoor
