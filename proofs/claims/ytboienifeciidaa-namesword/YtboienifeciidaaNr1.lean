/-
  Contracts of layer 10, the document's own: a byte that stands for itself, a digit, its value. No statement of the seed is proved here.
-/
import Derived.Test.YtboienifeciidaaNm1
namespace Go.Proofs.Ytboienifeciidaa
open Go.RowKit
set_option linter.unusedVariables false

theorem rSelf_any (z : Int) (w : World) : Calls Try.prog 26 #[.int .u8 z] w fun e w' => e = .returned (.bool (selfZ z)) ∧ w = w' := by
  rcases (by omega : z < 48 ∨ (48 ≤ z ∧ z ≤ 57) ∨ (57 < z ∧ z < 97) ∨ (97 ≤ z ∧ z ≤ 122) ∨ 122 < z) with h | h | h | h | h
  · have h1 : ¬ 97 ≤ z := by omega
    have h2 : ¬ 48 ≤ z := by omega
    go_enter Try.func26, Try.ntmps26
    go_wp2
    go_ret
    exact ⟨by simp [selfZ] <;> omega, rfl⟩
  · have h1 : ¬ 97 ≤ z := by omega
    have h2 : 48 ≤ z := by omega
    have h3 : z ≤ 57 := by omega
    go_enter Try.func26, Try.ntmps26
    go_wp2
    go_ret
    exact ⟨by simp [selfZ] <;> omega, rfl⟩
  · have h1 : ¬ 97 ≤ z := by omega
    have h2 : 48 ≤ z := by omega
    have h3 : ¬ z ≤ 57 := by omega
    go_enter Try.func26, Try.ntmps26
    go_wp2
    go_ret
    exact ⟨by simp [selfZ] <;> omega, rfl⟩
  · have h1 : 97 ≤ z := by omega
    have h2 : z ≤ 122 := by omega
    go_enter Try.func26, Try.ntmps26
    go_wp2
    go_ret
    exact ⟨by simp [selfZ] <;> omega, rfl⟩
  · have h1 : 97 ≤ z := by omega
    have h2 : ¬ z ≤ 122 := by omega
    have h3 : 48 ≤ z := by omega
    have h4 : ¬ z ≤ 57 := by omega
    go_enter Try.func26, Try.ntmps26
    go_wp2
    go_ret
    exact ⟨by simp [selfZ] <;> omega, rfl⟩

theorem digB_toNat' : ∀ n < 16, (digB n).toNat = if n < 10 then 48 + n else 87 + n := by decide +kernel
theorem digB_toNat {n : Nat} (h : n < 16) : (digB n).toNat = if n < 10 then 48 + n else 87 + n := digB_toNat' n h
theorem rDigit_any (z : Int) (n : Nat) (hz : z = n) (hn : n < 16) (w : World) : Calls Try.prog 28 #[.int .u8 z] w fun e w' => e = .returned (.int .u8 (digB n).toNat) ∧ w = w' := by
  have hd := digB_toNat hn
  by_cases h : n < 10
  · rw [if_pos h] at hd
    rw [hd]
    have h0 : 0 ≤ z := by omega
    have h1 : z < 10 := by omega
    have Hz : Hid (((48 + n : Nat) : Int) = 48 + z) := Lib.hid (by omega)
    rw [Hz.out]
    clear hz hd h hn Hz
    go_enter Try.func28, Try.ntmps28
    go_wp2
    go_ret
    exact ⟨rfl, rfl⟩
  · rw [if_neg h] at hd
    rw [hd]
    have h0 : 10 ≤ z := by omega
    have h1 : z < 16 := by omega
    have Hz : Hid (((87 + n : Nat) : Int) = 87 + z) := Lib.hid (by omega)
    rw [Hz.out]
    clear hz hd h hn Hz
    go_enter Try.func28, Try.ntmps28
    go_wp2
    go_ret
    exact ⟨rfl, rfl⟩

theorem valZ_none {b : UInt8} (h : ∀ j < 16, digB j ≠ b) : valZ b = -1 := by
  have h1 := valZ_ge b
  by_cases h0 : 0 ≤ valZ b
  · obtain ⟨e, l⟩ := valZ_back h0
    exact absurd e (h _ (by omega))
  · omega

set_option maxRecDepth 100000 in
set_option maxHeartbeats 1000000 in
theorem rValue_any (b : UInt8) (w : World) : Calls Try.prog 27 #[.int .u8 b.toNat] w fun e w' => e = .returned (.int .i64 (valZ b)) ∧ w = w' := by
  obtain ⟨R, hR⟩ : ∃ R, valZ b = R := ⟨_, rfl⟩
  rw [hR]
  have HR := Lib.hid hR
  clear hR
  obtain ⟨zb, hzb⟩ : ∃ z : Int, (b.toNat : Int) = z := ⟨_, rfl⟩
  have Hzb := Lib.hid hzb
  rw [hzb]
  clear hzb
  go_enter Try.func27, Try.ntmps27
  go_wp2
  go_loopw [3] (fun n wr => ∃ k : Nat, k ≤ 16 ∧ n = .int .i64 k ∧ w = wr ∧ Hid (∀ j < k, digB j ≠ b)) (fun n _ => 16 - (intOf n).toNat)
  case atStart => exact ⟨0, by omega, rfl, rfl, Lib.hid (fun j hj => absurd hj (by omega))⟩
  case round =>
    obtain ⟨k, hk, rfl, rfl, Hk⟩ := hrel
    by_cases hp : k < 16
    · have hkm : (k : Int) % 256 = k := by omega
      obtain ⟨zd, hzd⟩ : ∃ z : Int, ((digB k).toNat : Int) = z := ⟨_, rfl⟩
      have Hzd := Lib.hid hzd
      clear hzd
      by_cases he : digB k = b
      · have hzz : zd = zb := by rw [← Hzd.out, ← Hzb.out, he]
        have Hf : Hid (R = (k : Int)) := Lib.hid (by rw [← HR.out, ← he]; exact (digits_back k hp).1)
        subst hzz
        clear he
        go_wp2_with (go_at_call 28; refine (rDigit_any _ k (by omega) hp _).mono ?_; rw [Hzd.out]; rintro e w' ⟨rfl, rfl⟩)
        go_ret
        exact ⟨by rw [Hf.out]; rfl, rfl⟩
      · have hzz : ¬ zd = zb := fun e => he (by rw [← UInt8.toNat_inj]; have := Hzd.out; have := Hzb.out; omega)
        have hbb : (zd == zb) = false := by simpa using hzz
        have Hk2 : Hid (∀ j < k + 1, digB j ≠ b) := Lib.hid (fun j hj => by
          by_cases hjk : j = k
          · subst hjk; exact he
          · exact Hk.out j (by omega))
        clear he Hk
        go_wp2_with (go_at_call 28; refine (rDigit_any _ k (by omega) hp _).mono ?_; rw [Hzd.out]; rintro e w' ⟨rfl, rfl⟩)
        go_roundw
        case rel => exact ⟨k + 1, by omega, by go_num, trivial, Hk2⟩
        case measure => simp [intOf]; omega
    · obtain rfl : k = 16 := by omega
      have Hf : Hid (R = -1) := Lib.hid (by rw [← HR.out]; exact valZ_none Hk.out)
      clear Hk
      go_wp2
      go_ret
      exact ⟨by rw [Hf.out]; rfl, rfl⟩
end Go.Proofs.Ytboienifeciidaa
