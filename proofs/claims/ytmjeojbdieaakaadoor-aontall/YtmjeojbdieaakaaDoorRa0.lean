/-
  Contract of the document's own answer for layer 5: products. No statement of the seed is proved here.
-/
import Derived.Test.YtmjeojbdieaakaaDoorAes1
import Derived.Test.YtmjeojbdieaakaaDoorPb
namespace Go.Proofs.YtmjeojbdieaakaaDoor
open Go.RowKit
set_option linter.unusedVariables false

theorem xt_lo (x : UInt8) (h : x.toNat < 128) : 2 * (x.toNat : Int) = ((xt 0x1b x).toNat : Int) := by
  rw [xt_nat, show x.toNat / 128 = 0 by omega]
  simp
  omega
set_option maxRecDepth 100000 in
theorem xt_hi_all : ∀ n : Fin 256, 128 ≤ n.val → (2 * n.val) ^^^ 283 = (xt 0x1b (UInt8.ofNat n.val)).toNat := by decide +kernel
theorem xt_hi (x : UInt8) (h : 128 ≤ x.toNat) : bits .xor .i64 (2 * (x.toNat : Int)) 283 = ((xt 0x1b x).toNat : Int) := by
  have hx := x.toNat_lt
  have h1 := xt_hi_all ⟨x.toNat, hx⟩ h
  simp only [UInt8.ofNat_toNat] at h1
  rw [← h1]
  exact i64_xor_nat (2 * x.toNat) 283 (by omega) (by omega)

set_option maxHeartbeats 1000000 in
theorem times5_any (a b : UInt8) (z : Int) (w : World) (hz : z = (b.toNat : Int)) : Calls Tryd.prog 79 #[.int .u8 (a.toNat : Int), .int .u8 z] w fun e w' => e = .returned (.int .u8 ((gmul 0x1b a b).toNat : Int)) ∧ w' = w := by
  subst hz
  have ha := a.toNat_lt
  have hb := b.toNat_lt
  go_enter Tryd.func79, Tryd.ntmps79
  go_wp2
  go_loopw [5, 6, 7] (fun vx vo vn wr => ∃ (x o n : UInt8) (k : Nat), vx = .int .i64 (x.toNat : Int) ∧ vo = .int .i64 (o.toNat : Int) ∧ vn = .int .i64 (n.toNat : Int) ∧ Hid (k ≤ 8 ∧ n.toNat < 2 ^ (8 - k) ∧ o ^^^ gfm 0x1b (8 - k) x n = gmul 0x1b a b) ∧ wr = w) (fun _ _ vn _ => (intOf vn).toNat)
  case atStart => exact ⟨a, 0, b, 0, rfl, rfl, rfl, Lib.hid ⟨by omega, hb, by rw [UInt8.zero_xor]; rfl⟩, rfl⟩
  case round =>
    obtain ⟨x, o, n, k, rfl, rfl, rfl, H, rfl⟩ := hrel
    obtain ⟨hk, hn, hg⟩ := H.out
    have hxb := x.toNat_lt
    have hob := o.toNat_lt
    have hnb := n.toNat_lt
    by_cases h0 : n.toNat = 0
    · have hn0 : n = 0 := UInt8.toNat_inj.1 h0
      rw [hn0, gfm_zero_r, UInt8.xor_zero] at hg
      subst hg
      clear hn H
      go_wp2
      go_ret
      exact ⟨rfl, rfl⟩
    · obtain ⟨j, hj⟩ : ∃ j, 8 - k = j + 1 := ⟨7 - k, by
        have : k ≠ 8 := by rintro rfl; simp at hn; omega
        omega⟩
      have hj2 : 8 - (k + 1) = j := by omega
      rw [hj] at hg hn
      have hn2 : (n / 2).toNat < 2 ^ (8 - (k + 1)) := by rw [hj2, UInt8.toNat_div]; show n.toNat / 2 < 2 ^ j; rw [Nat.pow_succ] at hn; omega
      unfold gfm at hg
      rw [← hj2] at hg
      have hh := half8 n
      have hlt2 : (n / 2).toNat < n.toNat := by rw [UInt8.toNat_div]; show n.toNat / 2 < n.toNat; omega
      have Hlt := Lib.hid hlt2
      by_cases ho : n.toNat % 2 = 1
      · rw [if_pos ((odd8 n).2 ho), ← UInt8.xor_assoc] at hg
        have hox := xorB64 o x
        have hq : (n.toNat : Int) % 2 = 1 := by omega
        have H2 : Hid (k + 1 ≤ 8 ∧ (n / 2).toNat < 2 ^ (8 - (k + 1)) ∧ (o ^^^ x) ^^^ gfm 0x1b (8 - (k + 1)) (xt 0x1b x) (n / 2) = gmul 0x1b a b) := Lib.hid ⟨by omega, hn2, hg⟩
        generalize o ^^^ x = o2 at *
        generalize n / 2 = n2 at *
        by_cases hx : x.toNat < 128
        · have h1 := xt_lo x hx
          have hb2 := (xt 0x1b x).toNat_lt
          generalize xt 0x1b x = x2 at *
          clear H hk hn hg hj hj2 hn2 hlt2 ho
          go_wp2
          go_roundw
          case rel => exact ⟨x2, o2, n2, k + 1, rfl, rfl, rfl, H2, trivial⟩
          case measure => simp [intOf]; have := Hlt.out; omega
        · have h1 := xt_hi x (by omega)
          generalize xt 0x1b x = x2 at *
          clear H hk hn hg hj hj2 hn2 hlt2 ho
          go_wp2
          go_roundw
          case rel => exact ⟨x2, o2, n2, k + 1, rfl, rfl, rfl, H2, trivial⟩
          case measure => simp [intOf]; have := Hlt.out; omega
      · rw [if_neg (fun h => ho ((odd8 n).1 h)), UInt8.zero_xor] at hg
        have hq : (n.toNat : Int) % 2 = 0 := by omega
        have H2 : Hid (k + 1 ≤ 8 ∧ (n / 2).toNat < 2 ^ (8 - (k + 1)) ∧ o ^^^ gfm 0x1b (8 - (k + 1)) (xt 0x1b x) (n / 2) = gmul 0x1b a b) := Lib.hid ⟨by omega, hn2, hg⟩
        generalize n / 2 = n2 at *
        by_cases hx : x.toNat < 128
        · have h1 := xt_lo x hx
          have hb2 := (xt 0x1b x).toNat_lt
          generalize xt 0x1b x = x2 at *
          clear H hk hn hg hj hj2 hn2 hlt2 ho
          go_wp2
          go_roundw
          case rel => exact ⟨x2, o, n2, k + 1, rfl, rfl, rfl, H2, trivial⟩
          case measure => simp [intOf]; have := Hlt.out; omega
        · have h1 := xt_hi x (by omega)
          generalize xt 0x1b x = x2 at *
          clear H hk hn hg hj hj2 hn2 hlt2 ho
          go_wp2
          go_roundw
          case rel => exact ⟨x2, o, n2, k + 1, rfl, rfl, rfl, H2, trivial⟩
          case measure => simp [intOf]; have := Hlt.out; omega

end Go.Proofs.YtmjeojbdieaakaaDoor
