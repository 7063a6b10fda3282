/-
  Contracts of the document's own answers for layer 7: products, inverses. No statement of the seed is proved here.
-/
import Derived.Test.YtmfbgogfefgglaaChecked
import Derived.Test.YtmfbgogfefgglaaGfT
import Derived.Test.YtmfbgogfefgglaaX64
import Derived.Outline
namespace Go.Proofs.Ytmfbgogfefgglaa
open Go.RowKit
set_option linter.unusedVariables false

theorem gfm7_zero_r : ∀ (k : Nat) (x : UInt8), gfm 0x1d k x 0 = 0
  | 0, _ => rfl
  | k + 1, x => by
    unfold gfm
    rw [if_neg (by decide), show (0 : UInt8) / 2 = 0 from rfl, gfm7_zero_r k]
    rfl
set_option maxRecDepth 100000 in
theorem xt7_lo_all : ∀ n : Fin 256, n.val < 128 → 2 * n.val = (xt 0x1d (UInt8.ofNat n.val)).toNat := by decide +kernel
theorem xt7_lo (x : UInt8) (h : x.toNat < 128) : 2 * (x.toNat : Int) = ((xt 0x1d x).toNat : Int) := by
  have h1 := xt7_lo_all ⟨x.toNat, x.toNat_lt⟩ h
  simp only [UInt8.ofNat_toNat] at h1
  omega
set_option maxRecDepth 100000 in
theorem xt7_hi_all : ∀ n : Fin 256, 128 ≤ n.val → (2 * n.val) ^^^ 285 = (xt 0x1d (UInt8.ofNat n.val)).toNat := by decide +kernel
theorem xt7_hi (x : UInt8) (h : 128 ≤ x.toNat) : bits .xor .i64 (2 * (x.toNat : Int)) 285 = ((xt 0x1d x).toNat : Int) := by
  have hx := x.toNat_lt
  have h1 := xt7_hi_all ⟨x.toNat, hx⟩ h
  simp only [UInt8.ofNat_toNat] at h1
  rw [← h1]
  exact i64_xor_nat (2 * x.toNat) 285 (by omega) (by omega)

set_option maxHeartbeats 1000000 in
theorem mulR7_any (a b : UInt8) (y z : Int) (w : World) (hy : y = (a.toNat : Int)) (hz : z = (b.toNat : Int)) : Calls Try.prog 30 #[.int .u8 y, .int .u8 z] w fun e w' => e = .returned (.int .u8 ((gmul 0x1d a b).toNat : Int)) ∧ w' = w := by
  subst hy hz
  have ha := a.toNat_lt
  have hb := b.toNat_lt
  go_enter Try.func30, Try.ntmps30
  go_wp2
  go_loopw [5, 6, 7] (fun vx vn vo wr => ∃ (x o n : UInt8) (k : Nat), vx = .int .i64 (x.toNat : Int) ∧ vo = .int .i64 (o.toNat : Int) ∧ vn = .int .i64 (n.toNat : Int) ∧ Hid (k ≤ 8 ∧ n.toNat < 2 ^ (8 - k) ∧ o ^^^ gfm 0x1d (8 - k) x n = gmul 0x1d a b) ∧ wr = w) (fun _ vn _ _ => (intOf vn).toNat)
  case atStart => exact ⟨a, 0, b, 0, rfl, rfl, rfl, Lib.hid ⟨by omega, hb, by rw [UInt8.zero_xor]; rfl⟩, rfl⟩
  case round =>
    obtain ⟨x, o, n, k, rfl, rfl, rfl, H, rfl⟩ := hrel
    obtain ⟨hk, hn, hg⟩ := H.out
    have hxb := x.toNat_lt
    have hob := o.toNat_lt
    have hnb := n.toNat_lt
    by_cases h0 : n.toNat = 0
    · have hn0 : n = 0 := UInt8.toNat_inj.1 h0
      rw [hn0, gfm7_zero_r, UInt8.xor_zero] at hg
      subst hg
      clear hn H
      go_wp2
      go_ret
      exact ⟨rfl, rfl⟩
    · obtain ⟨j, hj⟩ : ∃ j, 8 - k = j + 1 := ⟨7 - k, by
        have : k ≠ 8 := by rintro rfl; simp at hn; omega
        omega⟩
      have hj2 : 8 - (k + 1) = j := by omega
      rw [hj] at hg hn
      have hn2 : (n / 2).toNat < 2 ^ (8 - (k + 1)) := by rw [hj2, UInt8.toNat_div]; show n.toNat / 2 < 2 ^ j; rw [Nat.pow_succ] at hn; omega
      unfold gfm at hg
      rw [← hj2] at hg
      have hh := half8 n
      have hlt2 : (n / 2).toNat < n.toNat := by rw [UInt8.toNat_div]; show n.toNat / 2 < n.toNat; omega
      have Hlt := Lib.hid hlt2
      by_cases ho : n.toNat % 2 = 1
      · rw [if_pos ((odd8 n).2 ho), ← UInt8.xor_assoc] at hg
        have hox := xorB64 o x
        have hq : (n.toNat : Int) % 2 = 1 := by omega
        have H2 : Hid (k + 1 ≤ 8 ∧ (n / 2).toNat < 2 ^ (8 - (k + 1)) ∧ (o ^^^ x) ^^^ gfm 0x1d (8 - (k + 1)) (xt 0x1d x) (n / 2) = gmul 0x1d a b) := Lib.hid ⟨by omega, hn2, hg⟩
        generalize o ^^^ x = o2 at *
        generalize n / 2 = n2 at *
        by_cases hx : x.toNat < 128
        · have h1 := xt7_lo x hx
          have hb2 := (xt 0x1d x).toNat_lt
          generalize xt 0x1d x = x2 at *
          clear H hk hn hg hj hj2 hn2 hlt2 ho
          go_wp2
          go_roundw
          case rel => exact ⟨x2, o2, n2, k + 1, rfl, rfl, rfl, H2, trivial⟩
          case measure => simp [intOf]; have := Hlt.out; omega
        · have h1 := xt7_hi x (by omega)
          generalize xt 0x1d x = x2 at *
          clear H hk hn hg hj hj2 hn2 hlt2 ho
          go_wp2
          go_roundw
          case rel => exact ⟨x2, o2, n2, k + 1, rfl, rfl, rfl, H2, trivial⟩
          case measure => simp [intOf]; have := Hlt.out; omega
      · rw [if_neg (fun h => ho ((odd8 n).1 h)), UInt8.zero_xor] at hg
        have hq : (n.toNat : Int) % 2 = 0 := by omega
        have H2 : Hid (k + 1 ≤ 8 ∧ (n / 2).toNat < 2 ^ (8 - (k + 1)) ∧ o ^^^ gfm 0x1d (8 - (k + 1)) (xt 0x1d x) (n / 2) = gmul 0x1d a b) := Lib.hid ⟨by omega, hn2, hg⟩
        generalize n / 2 = n2 at *
        by_cases hx : x.toNat < 128
        · have h1 := xt7_lo x hx
          have hb2 := (xt 0x1d x).toNat_lt
          generalize xt 0x1d x = x2 at *
          clear H hk hn hg hj hj2 hn2 hlt2 ho
          go_wp2
          go_roundw
          case rel => exact ⟨x2, o, n2, k + 1, rfl, rfl, rfl, H2, trivial⟩
          case measure => simp [intOf]; have := Hlt.out; omega
        · have h1 := xt7_hi x (by omega)
          generalize xt 0x1d x = x2 at *
          clear H hk hn hg hj hj2 hn2 hlt2 ho
          go_wp2
          go_roundw
          case rel => exact ⟨x2, o, n2, k + 1, rfl, rfl, rfl, H2, trivial⟩
          case measure => simp [intOf]; have := Hlt.out; omega

theorem ginv_zero : ginv 0x1d 0 = 0 := by decide +kernel
theorem inv7_none (a : UInt8) (H : ∀ j, 1 ≤ j → j < 256 → gmul 0x1d a (UInt8.ofNat j) ≠ 1) : ginv 0x1d a = 0 := by
  by_cases h0 : a = 0
  · rw [h0]; exact ginv_zero
  · exfalso
    have h1 := gmul_inv (.inl rfl) a h0
    have hn : (ginv 0x1d a) ≠ 0 := by intro h; rw [h, gmul_zero_r] at h1; exact absurd h1 (by decide)
    have hn' : (ginv 0x1d a).toNat ≠ 0 := fun h => hn (UInt8.toNat_inj.1 h)
    have hl := (ginv 0x1d a).toNat_lt
    exact H (ginv 0x1d a).toNat (by omega) (by omega) (by rw [UInt8.ofNat_toNat]; exact h1)

set_option maxRecDepth 100000 in
set_option maxHeartbeats 1000000 in
theorem invR7_at (a v : UInt8) (M : UInt8 → UInt8) (w : World) (HC : Hid (∀ (x : UInt8) (z : Int) (W : World), z = (x.toNat : Int) → Calls Try.prog 30 #[.int .u8 (a.toNat : Int), .int .u8 z] W fun e w' => e = .returned (.int .u8 ((M x).toNat : Int)) ∧ w' = W))
    (HU : Hid (∀ x, M x = 1 → x = v)) (HN : Hid ((∀ j, 1 ≤ j → j < 256 → M (UInt8.ofNat j) ≠ 1) → v = 0)) : Calls Try.prog 34 #[.int .u8 (a.toNat : Int)] w fun e w' => e = .returned (.int .u8 (v.toNat : Int)) ∧ w' = w := by
  have ha := a.toNat_lt
  go_enter Try.func34, Try.ntmps34
  go_wp2
  go_loopw [3] (fun i wr => ∃ k : Nat, 1 ≤ k ∧ k ≤ 256 ∧ i = .int .i64 (k : Int) ∧ wr = w ∧ Hid (∀ j, 1 ≤ j → j < k → M (UInt8.ofNat j) ≠ 1)) (fun i _ => 256 - (intOf i).toNat)
  case atStart => exact ⟨1, by omega, by omega, rfl, rfl, Lib.hid (fun j h1 h2 => by omega)⟩
  case round =>
    obtain ⟨k, hk1, hk, rfl, rfl, H⟩ := hrel
    by_cases hlt : k < 256
    · have hkb : (UInt8.ofNat k).toNat = k := by simp; omega
      obtain ⟨x, hx⟩ : ∃ x, x = UInt8.ofNat k := ⟨_, rfl⟩
      have HK : Hid ((k : Int) = (x.toNat : Int)) := Lib.hid (by rw [hx, hkb])
      have HX := Lib.hid hx
      clear hx hkb
      have HCx := Lib.hid (HC.out x)
      obtain ⟨r, hr⟩ : ∃ r, r = M x := ⟨_, rfl⟩
      rw [← hr] at HCx
      by_cases h1 : r = 1
      · have he : ((r.toNat : Int) == 1) = true := by subst h1; rfl
        have HE : Hid ((k : Int) = (v.toNat : Int)) := Lib.hid (by rw [HK.out, HU.out x (hr.symm.trans h1)])
        clear hr h1 H
        go_wp2_with fail
        refine (HCx.out _ _ HK.out).mono ?_
        rintro e w' ⟨rfl, rfl⟩
        go_wp2
        go_ret
        exact ⟨ret_int HE.out, rfl⟩
      · have he : ((r.toNat : Int) == 1) = false := by
          have : r.toNat ≠ 1 := fun h => h1 (UInt8.toNat_inj.1 h)
          simp; omega
        have H' : Hid (∀ j, 1 ≤ j → j < k + 1 → M (UInt8.ofNat j) ≠ 1) := Lib.hid (fun j g1 g2 => by
          by_cases hj : j < k
          · exact H.out j g1 hj
          · obtain rfl : j = k := by omega
            rw [← HX.out, ← hr]; exact h1)
        clear hr h1 H
        go_wp2_with fail
        refine (HCx.out _ _ HK.out).mono ?_
        rintro e w' ⟨rfl, rfl⟩
        go_wp2
        go_roundw
        case rel => exact ⟨k + 1, by omega, by omega, by go_num, trivial, H'⟩
        case measure => simp [intOf]; omega
    · obtain rfl : k = 256 := by omega
      have HZ : Hid ((0 : Int) = (v.toNat : Int)) := Lib.hid (by rw [HN.out H.out]; rfl)
      clear H
      go_wp2
      go_ret
      exact ⟨ret_int HZ.out, rfl⟩
theorem invR7_any (a : UInt8) (y : Int) (w : World) (hy : y = (a.toNat : Int)) : Calls Try.prog 34 #[.int .u8 y] w fun e w' => e = .returned (.int .u8 ((ginv 0x1d a).toNat : Int)) ∧ w' = w := by
  subst hy
  exact invR7_at a _ (gmul 0x1d a) w (Lib.hid fun x z W hz => mulR7_any a x _ z W rfl hz) (Lib.hid (inv_unique a)) (Lib.hid (inv7_none a))
end Go.Proofs.Ytmfbgogfefgglaa
