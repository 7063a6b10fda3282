/-
  Contracts of the document's own answers for layer 5: products, inverses, a byte's in the table. No statement of the seed is proved here.
-/
import Derived.Test.YticjdmdbjhbddaaAes1
namespace Go.Proofs.Yticjdmdbjhbddaa
open Go.RowKit
set_option linter.unusedVariables false

theorem i64_xor_nat (a b : Nat) (ha : a < 9223372036854775808) (hb : b < 9223372036854775808) : bits .xor .i64 (a : Int) (b : Int) = ((a ^^^ b : Nat) : Int) := by
  have hx : a ^^^ b < 2 ^ 63 := Nat.xor_lt_two_pow (by omega) (by omega)
  show IntKind.i64.wrap ((BitVec.ofInt 64 (a : Int) ^^^ BitVec.ofInt 64 (b : Int)).toNat : Int) = _
  rw [BitVec.toNat_xor, ofInt_u64 a (by omega), ofInt_u64 b (by omega), IntWalk.i64_in _ (by omega)]
theorem xt_lo (x : UInt8) (h : x.toNat < 128) : 2 * (x.toNat : Int) = ((xt 0x1b x).toNat : Int) := by
  rw [xt_nat, show x.toNat / 128 = 0 by omega]
  simp
  omega
set_option maxRecDepth 100000 in
theorem xt_hi_all : ∀ n : Fin 256, 128 ≤ n.val → (2 * n.val) ^^^ 283 = (xt 0x1b (UInt8.ofNat n.val)).toNat := by decide +kernel
theorem xt_hi (x : UInt8) (h : 128 ≤ x.toNat) : bits .xor .i64 (2 * (x.toNat : Int)) 283 = ((xt 0x1b x).toNat : Int) := by
  have hx := x.toNat_lt
  have h1 := xt_hi_all ⟨x.toNat, hx⟩ h
  simp only [UInt8.ofNat_toNat] at h1
  rw [← h1]
  exact i64_xor_nat (2 * x.toNat) 283 (by omega) (by omega)
theorem xorB64 (x y : UInt8) : bits .xor .i64 (x.toNat : Int) (y.toNat : Int) = ((x ^^^ y).toNat : Int) := by
  have := x.toNat_lt
  have := y.toNat_lt
  rw [UInt8.toNat_xor]; exact i64_xor_nat _ _ (by omega) (by omega)
theorem half8 (n : UInt8) : (n.toNat : Int) / 2 = ((n / 2).toNat : Int) := by
  rw [UInt8.toNat_div]; rfl
theorem odd8 (n : UInt8) : n % 2 = 1 ↔ n.toNat % 2 = 1 := by
  rw [← UInt8.toNat_inj, UInt8.toNat_mod]; rfl

set_option maxHeartbeats 1000000 in
theorem times5_any (a b : UInt8) (z : Int) (w : World) (hz : z = (b.toNat : Int)) : Calls Try.prog 21 #[.int .u8 (a.toNat : Int), .int .u8 z] w fun e w' => e = .returned (.int .u8 ((gmul 0x1b a b).toNat : Int)) ∧ w' = w := by
  subst hz
  have ha := a.toNat_lt
  have hb := b.toNat_lt
  go_enter Try.func21, Try.ntmps21
  go_wp2
  go_loopw [5, 6, 7] (fun vx vo vn wr => ∃ (x o n : UInt8) (k : Nat), vx = .int .i64 (x.toNat : Int) ∧ vo = .int .i64 (o.toNat : Int) ∧ vn = .int .i64 (n.toNat : Int) ∧ Hid (k ≤ 8 ∧ n.toNat < 2 ^ (8 - k) ∧ o ^^^ gfm 0x1b (8 - k) x n = gmul 0x1b a b) ∧ wr = w) (fun _ _ vn _ => (intOf vn).toNat)
  case atStart => exact ⟨a, 0, b, 0, rfl, rfl, rfl, Lib.hid ⟨by omega, hb, by rw [UInt8.zero_xor]; rfl⟩, rfl⟩
  case round =>
    obtain ⟨x, o, n, k, rfl, rfl, rfl, H, rfl⟩ := hrel
    obtain ⟨hk, hn, hg⟩ := H.out
    have hxb := x.toNat_lt
    have hob := o.toNat_lt
    have hnb := n.toNat_lt
    by_cases h0 : n.toNat = 0
    · have hn0 : n = 0 := UInt8.toNat_inj.1 h0
      rw [hn0, gfm_zero_r, UInt8.xor_zero] at hg
      subst hg
      clear hn H
      go_wp2
      go_ret
      exact ⟨rfl, rfl⟩
    · obtain ⟨j, hj⟩ : ∃ j, 8 - k = j + 1 := ⟨7 - k, by
        have : k ≠ 8 := by rintro rfl; simp at hn; omega
        omega⟩
      have hj2 : 8 - (k + 1) = j := by omega
      rw [hj] at hg hn
      have hn2 : (n / 2).toNat < 2 ^ (8 - (k + 1)) := by rw [hj2, UInt8.toNat_div]; show n.toNat / 2 < 2 ^ j; rw [Nat.pow_succ] at hn; omega
      unfold gfm at hg
      rw [← hj2] at hg
      have hh := half8 n
      have hlt2 : (n / 2).toNat < n.toNat := by rw [UInt8.toNat_div]; show n.toNat / 2 < n.toNat; omega
      have Hlt := Lib.hid hlt2
      by_cases ho : n.toNat % 2 = 1
      · rw [if_pos ((odd8 n).2 ho), ← UInt8.xor_assoc] at hg
        have hox := xorB64 o x
        have hq : (n.toNat : Int) % 2 = 1 := by omega
        have H2 : Hid (k + 1 ≤ 8 ∧ (n / 2).toNat < 2 ^ (8 - (k + 1)) ∧ (o ^^^ x) ^^^ gfm 0x1b (8 - (k + 1)) (xt 0x1b x) (n / 2) = gmul 0x1b a b) := Lib.hid ⟨by omega, hn2, hg⟩
        generalize o ^^^ x = o2 at *
        generalize n / 2 = n2 at *
        by_cases hx : x.toNat < 128
        · have h1 := xt_lo x hx
          have hb2 := (xt 0x1b x).toNat_lt
          generalize xt 0x1b x = x2 at *
          clear H hk hn hg hj hj2 hn2 hlt2 ho
          go_wp2
          go_roundw
          case rel => exact ⟨x2, o2, n2, k + 1, rfl, rfl, rfl, H2, trivial⟩
          case measure => simp [intOf]; have := Hlt.out; omega
        · have h1 := xt_hi x (by omega)
          generalize xt 0x1b x = x2 at *
          clear H hk hn hg hj hj2 hn2 hlt2 ho
          go_wp2
          go_roundw
          case rel => exact ⟨x2, o2, n2, k + 1, rfl, rfl, rfl, H2, trivial⟩
          case measure => simp [intOf]; have := Hlt.out; omega
      · rw [if_neg (fun h => ho ((odd8 n).1 h)), UInt8.zero_xor] at hg
        have hq : (n.toNat : Int) % 2 = 0 := by omega
        have H2 : Hid (k + 1 ≤ 8 ∧ (n / 2).toNat < 2 ^ (8 - (k + 1)) ∧ o ^^^ gfm 0x1b (8 - (k + 1)) (xt 0x1b x) (n / 2) = gmul 0x1b a b) := Lib.hid ⟨by omega, hn2, hg⟩
        generalize n / 2 = n2 at *
        by_cases hx : x.toNat < 128
        · have h1 := xt_lo x hx
          have hb2 := (xt 0x1b x).toNat_lt
          generalize xt 0x1b x = x2 at *
          clear H hk hn hg hj hj2 hn2 hlt2 ho
          go_wp2
          go_roundw
          case rel => exact ⟨x2, o, n2, k + 1, rfl, rfl, rfl, H2, trivial⟩
          case measure => simp [intOf]; have := Hlt.out; omega
        · have h1 := xt_hi x (by omega)
          generalize xt 0x1b x = x2 at *
          clear H hk hn hg hj hj2 hn2 hlt2 ho
          go_wp2
          go_roundw
          case rel => exact ⟨x2, o, n2, k + 1, rfl, rfl, rfl, H2, trivial⟩
          case measure => simp [intOf]; have := Hlt.out; omega

set_option maxRecDepth 100000 in
set_option maxHeartbeats 1000000 in
theorem inverse5_any (a : UInt8) (w : World) : Calls Try.prog 22 #[.int .u8 (a.toNat : Int)] w fun e w' => e = .returned (.int .u8 ((ginv 0x1b a).toNat : Int)) ∧ w' = w := by
  have ha := a.toNat_lt
  go_enter Try.func22, Try.ntmps22
  go_wp2
  go_loopw [3] (fun vi wr => ∃ k : Nat, 1 ≤ k ∧ k ≤ 256 ∧ vi = .int .i64 (k : Int) ∧ Hid (∀ j, 1 ≤ j → j < k → gmul 0x1b a (UInt8.ofNat j) ≠ 1) ∧ wr = w) (fun vi _ => 256 - (intOf vi).toNat)
  case atStart => exact ⟨1, by omega, by omega, rfl, Lib.hid (fun j h1 h2 => by omega), rfl⟩
  case round =>
    obtain ⟨k, hk1, hk, rfl, H, rfl⟩ := hrel
    by_cases hlt : k < 256
    · obtain ⟨b, hb⟩ : ∃ b : UInt8, b = UInt8.ofNat k := ⟨_, rfl⟩
      have hbn : b.toNat = k := by rw [hb, ofNat_toNat]; omega
      have Hb := Lib.hid hbn
      have Hbb := Lib.hid hb
      clear hb hbn
      go_wp2_with fail
      refine (times5_any a b _ _ (by have := Hb.out; omega)).mono ?_
      rintro e w2 ⟨rfl, rfl⟩
      by_cases h1 : gmul 0x1b a b = 1
      · have hinv := ginv_only a b h1
        have hk2 : (k : Int) = ((ginv 0x1b a).toNat : Int) := by rw [← hinv, Hb.out]
        rw [h1]
        clear hinv h1
        go_wp2
        go_ret
        exact ⟨ret_int (by first | exact hk2 | omega), rfl⟩
      · have hne : ((gmul 0x1b a b).toNat : Int) ≠ 1 := fun h => h1 (UInt8.toNat_inj.1 (by show (gmul 0x1b a b).toNat = 1; omega))
        have H2 : Hid (∀ j, 1 ≤ j → j < k + 1 → gmul 0x1b a (UInt8.ofNat j) ≠ 1) := Lib.hid (fun j h2 h3 => by
          by_cases hj : j < k
          · exact H.out j h2 hj
          · obtain rfl : j = k := by omega
            rw [← Hbb.out]; exact h1)
        generalize gmul 0x1b a b = y at *
        clear h1 H
        go_wp2
        go_roundw
        case rel => exact ⟨k + 1, by omega, by omega, by go_num, H2, trivial⟩
        case measure => simp [intOf]; omega
    · obtain rfl : k = 256 := by omega
      have ha0 : a = 0 := by
        apply Classical.byContradiction
        intro h
        have h1 := gmul_inv (p := 0x1b) (.inr rfl) a h
        have h2 := ginv_ne a h
        have h3 := H.out (ginv 0x1b a).toNat (by
          rcases Nat.eq_zero_or_pos (ginv 0x1b a).toNat with h4 | h4
          · exact absurd (UInt8.toNat_inj.1 h4) h2
          · exact h4) (ginv 0x1b a).toNat_lt
        rw [UInt8.ofNat_toNat] at h3
        exact h3 h1
      have hz : (0 : Int) = ((ginv 0x1b a).toNat : Int) := by rw [ha0, ginv_zero]; rfl
      go_wp2
      go_ret
      exact ⟨ret_int hz, rfl⟩

theorem subOf_lt (b : Nat) : ∀ k, subOf b k < 2 ^ k
  | 0 => by simp [subOf]
  | k + 1 => by
    have := subOf_lt b k
    have h2 : subBit b k < 2 := Nat.mod_lt _ (by omega)
    unfold subOf
    rw [Nat.shiftLeft_eq, Nat.pow_succ]
    have : subBit b k * 2 ^ k ≤ 1 * 2 ^ k := Nat.mul_le_mul_right _ (by omega)
    omega
theorem sub_int (b i j4 j5 j6 j7 : Nat) (hb : b < 256) (h4 : j4 = (i + 4) % 8) (h5 : j5 = (i + 5) % 8) (h6 : j6 = (i + 6) % 8) (h7 : j7 = (i + 7) % 8) :
    bits .xor .i64 (bits .xor .i64 (bits .xor .i64 (bits .xor .i64 (bits .xor .i64 ((b : Int) / 2 ^ i) ((b : Int) / 2 ^ j4)) ((b : Int) / 2 ^ j5)) ((b : Int) / 2 ^ j6)) ((b : Int) / 2 ^ j7)) (99 / 2 ^ i) = (((b >>> i) ^^^ (b >>> j4) ^^^ (b >>> j5) ^^^ (b >>> j6) ^^^ (b >>> j7) ^^^ (99 >>> i) : Nat) : Int) := by
  have e : ∀ (x k : Nat), (x : Int) / 2 ^ k = ((x >>> k : Nat) : Int) := fun x k => by
    rw [Nat.shiftRight_eq_div_pow]
    have : ((2 : Int) ^ k) = ((2 ^ k : Nat) : Int) := by simp
    rw [this]
    rfl
  have l : ∀ x k : Nat, x < 256 → x >>> k < 2 ^ 8 := fun x k hx => Nat.lt_of_le_of_lt (by rw [Nat.shiftRight_eq_div_pow]; exact Nat.div_le_self _ _) hx
  have e99 : (99 : Int) / (2 : Int) ^ i = ((99 >>> i : Nat) : Int) := e 99 i
  have m : ∀ x : Nat, x < 2 ^ 8 → x < 9223372036854775808 := fun x hx => by omega
  have l1 := Nat.xor_lt_two_pow (l b i hb) (l b j4 hb)
  have l2 := Nat.xor_lt_two_pow l1 (l b j5 hb)
  have l3 := Nat.xor_lt_two_pow l2 (l b j6 hb)
  have l4 := Nat.xor_lt_two_pow l3 (l b j7 hb)
  rw [e99, e, e, e, e, e]
  rw [i64_xor_nat _ _ (m _ (l b i hb)) (m _ (l b j4 hb)), i64_xor_nat _ _ (m _ l1) (m _ (l b j5 hb)), i64_xor_nat _ _ (m _ l2) (m _ (l b j6 hb)), i64_xor_nat _ _ (m _ l3) (m _ (l b j7 hb)), i64_xor_nat _ _ (m _ l4) (m _ (l 99 i (by omega)))]

set_option maxRecDepth 100000 in
set_option maxHeartbeats 2000000 in
theorem sub5_any (a : UInt8) (z : Int) (w : World) (hz : z = (a.toNat : Int)) : Calls Try.prog 12 #[.int .u8 z] w fun e w' => e = .returned (.int .u8 ((sb a).toNat : Int)) ∧ w' = w := by
  subst hz
  have ha := a.toNat_lt
  have Hsb := Lib.hid (sb_eq a)
  go_enter Try.func12, Try.ntmps12
  go_wp2_with fail
  refine (inverse5_any a _).mono ?_
  rintro e w2 ⟨rfl, rfl⟩
  have hb := (ginv 0x1b a).toNat_lt
  generalize (ginv 0x1b a).toNat = b at *
  go_wp2
  go_loopw [4, 5] (fun vo vi wr => ∃ (k o : Nat), k ≤ 8 ∧ vo = .int .i64 (o : Int) ∧ o < 256 ∧ vi = .int .i64 (k : Int) ∧ Hid (o = subOf b k) ∧ wr = w2) (fun _ vi _ => 8 - (intOf vi).toNat)
  case atStart => exact ⟨0, 0, by omega, rfl, by omega, rfl, Lib.hid rfl, rfl⟩
  case round =>
    obtain ⟨k, o, hk, rfl, ho, rfl, H, rfl⟩ := hrel
    by_cases hlt : k < 8
    · obtain ⟨j4, h4⟩ : ∃ j, j = (k + 4) % 8 := ⟨_, rfl⟩
      obtain ⟨j5, h5⟩ : ∃ j, j = (k + 5) % 8 := ⟨_, rfl⟩
      obtain ⟨j6, h6⟩ : ∃ j, j = (k + 6) % 8 := ⟨_, rfl⟩
      obtain ⟨j7, h7⟩ : ∃ j, j = (k + 7) % 8 := ⟨_, rfl⟩
      have hsi := sub_int b k j4 j5 j6 j7 hb h4 h5 h6 h7
      have hbit : subBit b k = ((b >>> k) ^^^ (b >>> j4) ^^^ (b >>> j5) ^^^ (b >>> j6) ^^^ (b >>> j7) ^^^ (99 >>> k)) % 2 := by unfold subBit; rw [h4, h5, h6, h7]
      generalize (b >>> k) ^^^ (b >>> j4) ^^^ (b >>> j5) ^^^ (b >>> j6) ^^^ (b >>> j7) ^^^ (99 >>> k) = s at *
      have m4 : ((k : Int) + 4) % 8 = (j4 : Int) := by omega
      have m5 : ((k : Int) + 5) % 8 = (j5 : Int) := by omega
      have m6 : ((k : Int) + 6) % 8 = (j6 : Int) := by omega
      have m7 : ((k : Int) + 7) % 8 = (j7 : Int) := by omega
      have y4 : (j4 : Int) < 8 := by omega
      have y5 : (j5 : Int) < 8 := by omega
      have y6 : (j6 : Int) < 8 := by omega
      have y7 : (j7 : Int) < 8 := by omega
      have hsb : (s : Int) % 2 = (subBit b k : Int) := by omega
      have hb2 : subBit b k < 2 := by omega
      have hso : subOf b (k + 1) = o + subBit b k * 2 ^ k := by have := H.out; rw [this]; unfold subOf; rw [Nat.shiftLeft_eq]; cases k <;> rfl
      have hol := subOf_lt b (k + 1)
      have hpw : 2 ^ (k + 1) ≤ 2 ^ 8 := Nat.pow_le_pow_right (by omega) (by omega)
      have Hso := Lib.hid hso
      have hfin : o + subBit b k * 2 ^ k < 256 := by rw [← hso]; omega
      generalize subBit b k = t at *
      have Hf := Lib.hid hfin
      clear h4 h5 h6 h7 hbit hso hol hpw hfin
      obtain ⟨q, hq⟩ : ∃ q : Nat, q = t * 2 ^ k := ⟨_, rfl⟩
      rw [← hq] at Hf Hso
      have hpi : (t : Int) * 2 ^ k = (q : Int) := by rw [hq]; simp
      have hwr : wrap64 ((o : Int) + wrap64 ((t : Int) * 2 ^ k)) = ((o + q : Nat) : Int) := by
        have := Hf.out
        rw [hpi, IntWalk.wrap64_in (q : Int) (by omega), IntWalk.wrap64_in _ (by omega)]; omega
      have HW := Lib.hid hwr
      clear hwr hpi hq
      go_wp2
      go_roundw
      case rel => exact ⟨k + 1, o + q, by omega, by rw [HW.out], Hf.out, by go_num, by show _ = _; rw [Hso.out], trivial⟩
      case measure => simp [intOf]; omega
    · obtain rfl : k = 8 := by omega
      have he : (o : Int) = ((sb a).toNat : Int) := by rw [Hsb.out, H.out]
      go_wp2
      go_ret
      exact ⟨ret_int (by first | exact he | omega), rfl⟩
end Go.Proofs.Yticjdmdbjhbddaa
