/-
  Contracts of the document's own Cauchy matrix. No statement of the seed is proved here.
-/
import Derived.Test.YtmfbgogfefgglaaR7m
import Derived.Test.YtmfbgogfefgglaaR7c
import Derived.Test.YtmfbgogfefgglaaM8u
import Derived.Test.YtmfbgogfefgglaaR8l
namespace Go.Proofs.Ytmfbgogfefgglaa
open Go.RowKit
set_option linter.unusedVariables false

set_option maxHeartbeats 1000000 in
theorem cauchyR8_arg (y z : Int) (w : World) (h : y < 1 ∨ (1 ≤ y ∧ z < 1) ∨ (1 ≤ y ∧ 1 ≤ z ∧ 255 < y) ∨ (1 ≤ y ∧ 1 ≤ z ∧ y ≤ 255 ∧ 255 < z) ∨ (1 ≤ y ∧ y ≤ 255 ∧ 1 ≤ z ∧ z ≤ 255 ∧ 256 < y + z)) :
    Calls Try.prog 24 #[.int .i64 y, .int .i64 z] w (LRet2 [] 14 w) := by
  rcases h with h | ⟨h1, h2⟩ | ⟨h1, h2, h3⟩ | ⟨h1, h2, h3, h4⟩ | ⟨h1, h2, h3, h4, h5⟩
  all_goals
    go_enter Try.func24, Try.ntmps24
    go_wp2
    go_ret2
    exact ⟨none, 0, 0, rfl, RdL.nil _, Kept.refl _ _⟩
theorem i64_xor8 (t q : Nat) (ht : t < 256) (hq : q < 256) : bits .xor .i64 (t : Int) (q : Int) = ((UInt8.ofNat t ^^^ UInt8.ofNat q).toNat : Int) := by
  have h := i64_xor_nat t q (by omega) (by omega)
  rw [h, UInt8.toNat_xor, UInt8.toNat_ofNat', UInt8.toNat_ofNat', Nat.mod_eq_of_lt (by omega), Nat.mod_eq_of_lt (by omega)]
set_option maxRecDepth 100000 in
set_option maxHeartbeats 4000000 in
theorem cauchyR8_any (n k : Nat) (y z : Int) (w : World) (hy : y = (n : Int)) (hz : z = (k : Int)) (h1 : 1 ≤ n) (h2 : n ≤ 255) (h3 : 1 ≤ k) (h4 : k ≤ 255) (h5 : n + k ≤ 256) :
    Calls Try.prog 24 #[.int .i64 y, .int .i64 z] w (LRet2 (ofm n k (cau k)) 0 w) := by
  subst hy hz
  obtain ⟨i0, hi0, hz0, hz1, hz2⟩ := info_parts u8info
  obtain ⟨i1, hj0, hy0, hy1, hy2⟩ := info_parts tBinfo8
  go_enter Try.func24, Try.ntmps24
  go_wp2
  go_loopw [6, 7] (fun u v wr => ∃ (r : Nat) (vs : List Value) (A5 : Option Addr) (n5 c5 : Nat), r ≤ n ∧ v = .int .i64 (r : Int) ∧ u = .slice A5 n5 c5 ∧ Hid (OwV 37 wr (.slice A5 n5 c5) vs) ∧ Hid (TxtO wr (.slice A5 n5 c5) vs (ofm r k (cau k))) ∧ Hid (Kept [] w wr) ∧ Hid (∀ g, (Value.slice A5 n5 c5).ownBlock = some g → w.heap.size ≤ g)) (fun _ v _ => n - (intOf v).toNat)
  case atStart => exact ⟨0, [], none, 0, 0, by omega, rfl, rfl, Lib.hid (OwV.nil _ _), Lib.hid (TxtO.nil _ _), Lib.hid (Kept.refl _ _), Lib.hid (fun g hg => by simp [Value.ownBlock] at hg)⟩
  case round =>
    obtain ⟨r, vs, A5, n5, c5, hr, rfl, rfl, HO5, HT5, HK5, Hb5⟩ := hrel
    by_cases hlt : r < n
    · obtain ⟨wz, hwz⟩ : ∃ wz, wz = wr := ⟨_, rfl⟩
      rw [← hwz] at HO5 HT5 HK5 ⊢
      clear hwz
      go_wp2
      go_loopw [8, 9] (fun u v wr => ∃ (q : Nat) (A6 : Option Addr) (n6 c6 : Nat), q ≤ k ∧ v = .int .i64 (q : Int) ∧ u = .slice A6 n6 c6 ∧ Hid (OwB 5 wr (.slice A6 n6 c6) (rm q (fun j => (cau k r j).v))) ∧ Hid (Kept [] wz wr) ∧ Hid (∀ g, (Value.slice A6 n6 c6).ownBlock = some g → wz.heap.size ≤ g)) (fun _ v _ => k - (intOf v).toNat)
      case atStart => exact ⟨0, none, 0, 0, by omega, rfl, rfl, Lib.hid (OwB.nil _ _), Lib.hid (Kept.refl _ _), Lib.hid (fun g hg => by simp [Value.ownBlock] at hg)⟩
      case round =>
        obtain ⟨q, A6, n6, c6, hq, rfl, rfl, HO6, HK6, Hb6⟩ := hrel
        by_cases hlt2 : q < k
        · obtain ⟨t, ht⟩ : ∃ t, t = r + k := ⟨_, rfl⟩
          have ht1 : (r : Int) + (k : Int) = (t : Int) := by omega
          have ht2 : t < 256 := by omega
          obtain ⟨x8, hx8⟩ : ∃ x8, x8 = UInt8.ofNat t ^^^ UInt8.ofNat q := ⟨_, rfl⟩
          have hxor : bits .xor .i64 (t : Int) (q : Int) = (x8.toNat : Int) := by rw [i64_xor8 t q ht2 (by omega), hx8]
          obtain ⟨iv, hiv⟩ : ∃ iv, iv = ginv 0x1d x8 := ⟨_, rfl⟩
          have hcv : (cau k r q).v = iv := by unfold cau; rw [hiv, hx8, ht]; rfl
          have hib := iv.toNat_lt
          have hxb := x8.toNat_lt
          have HC : Hid (Calls Try.prog 34 #[.int .u8 (x8.toNat : Int)] wr fun e w' => e = .returned (.int .u8 (iv.toNat : Int)) ∧ w' = wr) := Lib.hid (by rw [hiv]; exact invR7_any x8 _ wr rfl)
          have HS : Hid (rm q (fun j => (cau k r j).v) ++ [iv] = rm (q + 1) (fun j => (cau k r j).v)) := Lib.hid (by rw [rm_snoc, hcv])
          clear ht hx8 hiv hcv
          go_wp2_with fail
          refine HC.out.mono ?_
          rintro e w6 ⟨rfl, hw6⟩
          subst hw6
          clear hxor ht1 HC
          go_wp2_with (at_builtin; refine wpList_append_bytes rfl (.tmp 40) (.tmp 48) 37 rfl 5 i0 _ 1 Try.underlying37 hi0 hz0 hz1 hz2 rfl (.slice A6 n6 c6) (rm q (fun j => (cau k r j).v)) rfl (HO6.out.alloc _) _ 1 1 [iv] rfl (RdB.one _ 5 _ iv rfl) (by rw [rm_length]; simp only [maxLen]; omega) (by rw [rm_length]; omega) ?_)
          intro v8 w8 ho8 hk8 hm8
          obtain ⟨hK8, hb8⟩ := app_new (HK6.out.alloc _) Hb6.out hk8 hm8
          rw [HS.out] at ho8
          obtain ⟨A8, n8, c8, rfl, _, _⟩ := ho8.form
          have HO8 := Lib.hid ho8
          have HK8 := Lib.hid hK8
          have Hb8 := Lib.hid hb8
          clear ho8 hK8 hb8 hk8 hm8 HS HO6 HK6 Hb6
          go_wp2
          go_roundw
          case rel => exact ⟨q + 1, A8, n8, c8, by omega, by go_num, rfl, HO8, HK8, Hb8⟩
          case measure => simp [intOf]; omega
        · obtain rfl : k = q := by omega
          have hr6 := HO6.out.rd
          have HO56 := Lib.hid (HO5.out.kept0 HK6.out)
          have hT2 : TxtO wr (.slice A5 n5 c5) [.slice A6 n6 c6] [rm k (fun j => (cau k r j).v)] := by
            refine TxtO.one hr6 (fun _ g hg x hx => ?_)
            subst hx
            have e1 := Hb6.out x.block rfl
            have e2 : g < wz.heap.size := by obtain ⟨_, _, _, _, _, hh⟩ := HO5.out.form; exact hh g hg
            omega
          have hT6 := (HT5.out.kept0 HK6.out).append hT2
          rw [← ofm_snoc] at hT6
          have HT6 := Lib.hid hT6
          have HV : Hid (vs.length = r) := Lib.hid (by rw [HT5.out.1, ofm_length])
          have HA6 : Hid (Kept [] w (wr.alloc (.cells #[.slice A6 n6 c6] 37))) := Lib.hid ((HK5.out.andThen HK6.out).alloc _)
          have HA7 : Hid (Kept [] wr (wr.alloc (.cells #[.slice A6 n6 c6] 37))) := Lib.hid ((Kept.refl [] wr).alloc _)
          clear hr6 hT2 hT6
          go_wp2_with (at_builtin; refine wpList_append_vals rfl (.tmp 50) (.tmp 52) 22 rfl 37 i1 _ 24 Try.underlying22 hj0 hy0 hy1 hy2 rfl (.slice A5 n5 c5) vs rfl (HO56.out.alloc _) _ 1 1 [.slice A6 n6 c6] rfl (RdV.one wr 37 _) (by simp [Value.oneCell']) (by rw [HV.out]; simp only [maxLen]; omega) (by rw [HV.out]; omega) ?_)
          intro v8 w8 ho8 hk8 hm8
          obtain ⟨hK8, hb8⟩ := app_new HA6.out Hb5.out hk8 hm8
          have HT8 := Lib.hid ((HT6.out.kept0 HA7.out).app hk8 hm8)
          obtain ⟨A8, n8, c8, rfl, _, _⟩ := ho8.form
          have HO8 := Lib.hid ho8
          have HK8 := Lib.hid hK8
          have Hb8 := Lib.hid hb8
          clear ho8 hK8 hb8 hk8 hm8 HA6 HA7 HT6 Hb5 HV HO56
          go_wp2
          go_roundw
          case rel => exact ⟨r + 1, _, A8, n8, c8, by omega, by go_num, rfl, HO8, HT8, HK8, Hb8⟩
          case measure => simp [intOf]; omega
    · obtain rfl : n = r := by omega
      have HL5 : Hid (RdL wr A5 n5 c5 (ofm n k (cau k))) := Lib.hid (RdL.of_vals HO5.out.rd HT5.out.txt)
      clear HT5 Hb5 HO5
      go_wp2
      go_ret2
      exact ⟨A5, n5, c5, rfl, HL5.out, HK5.out⟩
end Go.Proofs.Ytmfbgogfefgglaa
