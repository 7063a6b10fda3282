/-
  Contracts of layer 11 (aont): the least class, a slice's size. No statement of the seed is proved here.
-/
import Derived.Test.YtibcjbelcplpjaaDoorPd
namespace Go.Proofs.YtibcjbelcplpjaaDoor
open Go.RowKit
set_option linter.unusedVariables false

/-- The least class of at least n; 0, if all are less. -/
def atlN (n : Int) : Int := if n ≤ 32 then 32 else if n ≤ 64 then 64 else if n ≤ 128 then 128 else if n ≤ 256 then 256 else if n ≤ 512 then 512 else if n ≤ 1024 then 1024 else 0
theorem atlN_cls {n : Nat} (h : n ≤ 1000) : atlN ((n : Int) + 2) = ((clsN n : Nat) : Int) := by
  unfold atlN clsN
  repeat' split
  all_goals omega
theorem atlN_is {c : Int} : (atlN c = c) ↔ isCls c = true := by
  constructor
  · intro h
    unfold atlN at h
    have : c = 32 ∨ c = 64 ∨ c = 128 ∨ c = 256 ∨ c = 512 ∨ c = 1024 := by
      repeat' split at h
      all_goals omega
    rcases this with h | h | h | h | h | h <;> rw [h] <;> rfl
  · intro h
    rcases isCls_cases h with h | h | h | h | h | h <;> rw [h] <;> rfl

set_option maxRecDepth 100000 in
set_option maxHeartbeats 2000000 in
theorem aAtl_any (n : Int) (w : World) : Calls Tryd.prog 46 #[.int .i64 n] w fun e w' => e = .returned (.int .i64 (atlN n)) ∧ w = w' := by
  obtain ⟨R, hR⟩ : ∃ R, atlN n = R := ⟨_, rfl⟩
  rw [hR]
  have HR := Lib.hid hR
  clear hR
  go_enter Tryd.func46, Tryd.ntmps46
  go_wp2
  go_loopw [5] (fun i wr => ∃ k : Nat, k ≤ 6 ∧ i = .int .i64 (k : Int) ∧ w = wr ∧ Hid (k = 0 ∨ (k = 1 ∧ 32 < n) ∨ (k = 2 ∧ 64 < n) ∨ (k = 3 ∧ 128 < n) ∨ (k = 4 ∧ 256 < n) ∨ (k = 5 ∧ 512 < n) ∨ (k = 6 ∧ 1024 < n))) (fun i _ => 6 - (intOf i).toNat)
  case atStart => exact ⟨0, by omega, rfl, rfl, Lib.hid (by omega)⟩
  case round =>
    obtain ⟨k, hk, rfl, rfl, H⟩ := hrel
    rcases (by omega : k = 0 ∨ k = 1 ∨ k = 2 ∨ k = 3 ∨ k = 4 ∨ k = 5 ∨ k = 6) with rfl | rfl | rfl | rfl | rfl | rfl | rfl
    · by_cases h : n ≤ 32
      · have Hf : Hid (R = 32) := Lib.hid (by have := H.out; rw [← HR.out]; unfold atlN; repeat' split; all_goals omega)
        clear H
        go_wp2
        go_ret
        exact ⟨by rw [Hf.out] <;> rfl, rfl⟩
      · have H1 : Hid (32 < n) := Lib.hid (by omega)
        clear H
        go_wp2
        go_roundw
        case rel => exact ⟨1, by omega, rfl, trivial, Lib.hid (by have := H1.out; omega)⟩
        case measure => simp [intOf]
    · by_cases h : n ≤ 64
      · have Hf : Hid (R = 64) := Lib.hid (by have := H.out; rw [← HR.out]; unfold atlN; repeat' split; all_goals omega)
        clear H
        go_wp2
        go_ret
        exact ⟨by rw [Hf.out] <;> rfl, rfl⟩
      · have H1 : Hid (64 < n) := Lib.hid (by omega)
        clear H
        go_wp2
        go_roundw
        case rel => exact ⟨2, by omega, rfl, trivial, Lib.hid (by have := H1.out; omega)⟩
        case measure => simp [intOf]
    · by_cases h : n ≤ 128
      · have Hf : Hid (R = 128) := Lib.hid (by have := H.out; rw [← HR.out]; unfold atlN; repeat' split; all_goals omega)
        clear H
        go_wp2
        go_ret
        exact ⟨by rw [Hf.out] <;> rfl, rfl⟩
      · have H1 : Hid (128 < n) := Lib.hid (by omega)
        clear H
        go_wp2
        go_roundw
        case rel => exact ⟨3, by omega, rfl, trivial, Lib.hid (by have := H1.out; omega)⟩
        case measure => simp [intOf]
    · by_cases h : n ≤ 256
      · have Hf : Hid (R = 256) := Lib.hid (by have := H.out; rw [← HR.out]; unfold atlN; repeat' split; all_goals omega)
        clear H
        go_wp2
        go_ret
        exact ⟨by rw [Hf.out] <;> rfl, rfl⟩
      · have H1 : Hid (256 < n) := Lib.hid (by omega)
        clear H
        go_wp2
        go_roundw
        case rel => exact ⟨4, by omega, rfl, trivial, Lib.hid (by have := H1.out; omega)⟩
        case measure => simp [intOf]
    · by_cases h : n ≤ 512
      · have Hf : Hid (R = 512) := Lib.hid (by have := H.out; rw [← HR.out]; unfold atlN; repeat' split; all_goals omega)
        clear H
        go_wp2
        go_ret
        exact ⟨by rw [Hf.out] <;> rfl, rfl⟩
      · have H1 : Hid (512 < n) := Lib.hid (by omega)
        clear H
        go_wp2
        go_roundw
        case rel => exact ⟨5, by omega, rfl, trivial, Lib.hid (by have := H1.out; omega)⟩
        case measure => simp [intOf]
    · by_cases h : n ≤ 1024
      · have Hf : Hid (R = 1024) := Lib.hid (by have := H.out; rw [← HR.out]; unfold atlN; repeat' split; all_goals omega)
        clear H
        go_wp2
        go_ret
        exact ⟨by rw [Hf.out] <;> rfl, rfl⟩
      · have H1 : Hid (1024 < n) := Lib.hid (by omega)
        clear H
        go_wp2
        go_roundw
        case rel => exact ⟨6, by omega, rfl, trivial, Lib.hid (by have := H1.out; omega)⟩
        case measure => simp [intOf]
    · have Hf : Hid (R = 0) := Lib.hid (by have := H.out; rw [← HR.out]; unfold atlN; repeat' split; all_goals omega)
      clear H
      go_wp2
      go_ret
      exact ⟨by rw [Hf.out] <;> rfl, rfl⟩

theorem aHs_any (c : Int) (h0 : 0 ≤ c) (h1 : c ≤ 2000) (w : World) : Calls Tryd.prog 47 #[.int .i64 c] w fun e w' => e = .returned (.int .i64 (c + 16)) ∧ w = w' := by
  go_enter Tryd.func47, Tryd.ntmps47
  go_wp2
  go_ret
  exact ⟨rfl, rfl⟩

set_option maxRecDepth 100000 in
set_option maxHeartbeats 4000000 in
theorem aSiz_no (c k : Int) (h : isCls c = false) (w : World) : Calls Tryd.prog 25 #[.int .i64 c, .int .i64 k] w fun e w' => e = .returned (sizV c k) ∧ w = w' := by
  rw [sizV_no (fun g => by rw [h] at g; exact absurd g.1 (by simp))]
  obtain ⟨z, hz⟩ : ∃ z, atlN c = z := ⟨_, rfl⟩
  have hne : ¬ z = c := by
    rw [← hz, atlN_is, h]
    simp
  have HZ := Lib.hid hz
  clear hz h
  go_enter Tryd.func25, Tryd.ntmps25
  go_wp2_with (go_at_call 46; refine (aAtl_any _ _).mono ?_; rw [HZ.out]; rintro e w' ⟨rfl, rfl⟩)
  go_ret2
  exact ⟨rfl, rfl⟩
set_option maxRecDepth 100000 in
set_option maxHeartbeats 4000000 in
theorem aSiz_few (c k : Int) (h : isCls c = true) (hk : k < 1 ∨ 255 < k) (w : World) : Calls Tryd.prog 25 #[.int .i64 c, .int .i64 k] w fun e w' => e = .returned (sizV c k) ∧ w = w' := by
  rw [sizV_no (by omega)]
  have HZ := Lib.hid (atlN_is.2 h)
  clear h
  rcases hk with hk | hk
  · go_enter Tryd.func25, Tryd.ntmps25
    go_wp2_with (go_at_call 46; refine (aAtl_any _ _).mono ?_; rw [HZ.out]; rintro e w' ⟨rfl, rfl⟩)
    go_ret2
    exact ⟨rfl, rfl⟩
  · have hk1 : ¬ k < 1 := by omega
    go_enter Tryd.func25, Tryd.ntmps25
    go_wp2_with (go_at_call 46; refine (aAtl_any _ _).mono ?_; rw [HZ.out]; rintro e w' ⟨rfl, rfl⟩)
    go_ret2
    exact ⟨rfl, rfl⟩
set_option maxRecDepth 100000 in
set_option maxHeartbeats 4000000 in
theorem aSiz_yes (c k : Nat) (h : isCls c = true) (hk1 : 1 ≤ k) (hk2 : k ≤ 255) (w : World) : Calls Tryd.prog 25 #[.int .i64 c, .int .i64 k] w fun e w' => e = .returned (sizV c k) ∧ w = w' := by
  have hc1 : c ≤ 1024 := by have := isCls_cases h; omega
  have HZ := Lib.hid (atlN_is.2 h)
  obtain ⟨R, hR⟩ : ∃ R : Nat, sizN c k = R := ⟨_, rfl⟩
  rw [sizV_yes h (by omega) (by omega), Int.toNat_natCast, Int.toNat_natCast, hR]
  have hRm : R ≤ 2000 := by
    have := sizN_mul (c := c) hk1
    rw [hR] at this
    have h3 : 1 * R ≤ k * R := Nat.mul_le_mul_right R hk1
    omega
  have hdv : ((c : Int) + 16 + 32 + (k : Int) - 1) / (k : Int) = (R : Int) := by
    have h1 : (c : Int) + 16 + 32 + (k : Int) - 1 = ((c + 48 + (k - 1) : Nat) : Int) := by omega
    rw [h1, ← Int.natCast_ediv, ← hR]
    rfl
  have hdt : Int.tdiv ((c : Int) + 16 + 32 + (k : Int) - 1) (k : Int) = (R : Int) := by rw [Int.tdiv_eq_ediv_of_nonneg (by omega)]; exact hdv
  have hwd : wrap64 (((c : Int) + 16 + 32 + (k : Int) - 1) / (k : Int)) = (R : Int) := by rw [hdv]; exact IntWalk.wrap64_in _ (by omega)
  have hk0 : ¬ (k : Int) = 0 := by omega
  have k1 : ¬ (k : Int) < 1 := by omega
  have k2 : ¬ 255 < (k : Int) := by omega
  have HD := Lib.hid hwd
  clear hR h
  go_enter Tryd.func25, Tryd.ntmps25
  go_wp2_with (first
    | (go_at_call 46; refine (aAtl_any _ _).mono ?_; rw [HZ.out]; rintro e w' ⟨rfl, rfl⟩)
    | (go_at_call 47; refine (aHs_any _ (by omega) (by omega) _).mono ?_; rintro e w' ⟨rfl, rfl⟩))
  go_ret2
  exact ⟨rfl, rfl⟩
theorem aSiz_any (c k : Int) (w : World) : Calls Tryd.prog 25 #[.int .i64 c, .int .i64 k] w fun e w' => e = .returned (sizV c k) ∧ w = w' := by
  cases h : isCls c with
  | false => exact aSiz_no c k h w
  | true =>
    by_cases hk : k < 1 ∨ 255 < k
    · exact aSiz_few c k h hk w
    · obtain ⟨C, rfl⟩ : ∃ C : Nat, c = (C : Int) := ⟨c.toNat, by have := isCls_cases h; omega⟩
      obtain ⟨q, rfl⟩ : ∃ q : Nat, k = (q : Int) := ⟨k.toNat, by omega⟩
      exact aSiz_yes C q h (by omega) (by omega) w
end Go.Proofs.YtibcjbelcplpjaaDoor
