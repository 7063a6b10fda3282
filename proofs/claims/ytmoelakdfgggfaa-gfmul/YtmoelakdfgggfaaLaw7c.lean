/-
  Walk of layer 7's law GfMul. No statement of the seed is proved here.
-/
import Derived.Test.YtmoelakdfgggfaaLaw7a
namespace Go.Proofs.Ytmoelakdfgggfaa
open Go.RowKit
set_option linter.unusedVariables false

set_option maxRecDepth 100000 in
set_option maxHeartbeats 4000000 in
theorem mul_walk (za zb' : Int) (w : World) (ha : (Lit.int .u8 za).wf = true) (hb : (Lit.int .u8 zb').wf = true) :
    Calls Try.prog 3 #[.int .u8 za, .int .u8 zb'] w fun e w' => e = .returned (.bool true) ∧ Kept [] w w' := by
  obtain ⟨a, rfl⟩ := byte_of_int ha
  obtain ⟨b, rfl⟩ := byte_of_int hb
  clear ha hb
  obtain ⟨ab, hab⟩ : ∃ z : Int, ((gmul 0x1d a b).toNat : Int) = z := ⟨_, rfl⟩
  obtain ⟨ia, hia⟩ : ∃ z : Int, ((ginv 0x1d a).toNat : Int) = z := ⟨_, rfl⟩
  obtain ⟨q, hq⟩ : ∃ z : Int, ((gmul 0x1d a (ginv 0x1d b)).toNat : Int) = z := ⟨_, rfl⟩
  have Hab := Lib.hid hab
  have Hia := Lib.hid hia
  have Hq := Lib.hid hq
  clear hab hia hq
  by_cases a0 : a = 0
  · by_cases b0 : b = 0
    · have z1 : ((a.toNat : Int) == 0) = true := by rw [a0]; rfl
      have HA : Hid ((a.toNat : Int) = 0) := Lib.hid (by rw [a0]; rfl)
      have hI0 : ia = 0 := by rw [← Hia.out, a0, ginv_zero]; rfl
      subst hI0
      have z2 : ((b.toNat : Int) == 0) = true := by rw [b0]; rfl
      have HB : Hid ((b.toNat : Int) = 0) := Lib.hid (by rw [b0]; rfl)
      clear a0 b0
      go_enter Try.func3, Try.ntmps3
      go_wp2_with fail
      refine (wakes7_any _).mono ?_
      rintro e w1 ⟨rfl, hk1⟩
      go_wp2_with fail
      refine (make7_any _).mono ?_
      rintro e w2 ⟨p, rfl, hT, hp, hk2⟩
      have HT0 := Lib.hid hT
      have HK0 := Lib.hid (hk1.andThen hk2)
      clear hT hk1 hk2 hp
      go_wp2_with fail
      refine (inv7_z p _ _ HT0.out HA.out).mono ?_
      rintro e v1 ⟨rfl, t1, k1⟩
      have HT1 := Lib.hid t1
      have HK1 := Lib.hid (HK0.out.andThen k1)
      clear t1 k1 HT0 HK0
      go_wp2_with fail
      refine (div7_z p _ _ _ HT1.out HB.out).mono ?_
      rintro e v2 ⟨rfl, t2, k2⟩
      have HT2 := Lib.hid t2
      have HK2 := Lib.hid (HK1.out.andThen k2)
      clear t2 k2 HT1 HK1
      go_wp2_with fail
      refine (mul7_v p a b _ _ ab _ HT2.out rfl rfl Hab.out).mono ?_
      rintro e v3 ⟨rfl, t3, k3⟩
      have HT3 := Lib.hid t3
      have HK3 := Lib.hid (HK2.out.andThen k3)
      clear t3 k3 HT2 HK2
      go_wp2_with fail
      refine (mulR7_v a b _ _ ab _ rfl rfl Hab.out).mono ?_
      rintro e v4 ⟨rfl, rfl⟩
      go_wp2_with fail
      refine (invR7_v a _ _ _ rfl Hia.out).mono ?_
      rintro e v5 ⟨rfl, rfl⟩
      go_wp2
      go_ret
      exact ⟨rfl, HK3.out⟩
    · have z1 : ((a.toNat : Int) == 0) = true := by rw [a0]; rfl
      have HA : Hid ((a.toNat : Int) = 0) := Lib.hid (by rw [a0]; rfl)
      have hI0 : ia = 0 := by rw [← Hia.out, a0, ginv_zero]; rfl
      subst hI0
      have z2 : ((b.toNat : Int) == 0) = false := by have : b.toNat ≠ 0 := fun h => b0 (UInt8.toNat_inj.1 h); simp; omega
      have HB0 := Lib.hid b0
      have HB1 : Hid (((gmul 0x1d (gmul 0x1d a (ginv 0x1d b)) b).toNat : Int) = (a.toNat : Int)) := Lib.hid (by rw [gmul_assoc (.inl rfl), gmul_comm (.inl rfl) (ginv 0x1d b) b, gmul_inv (.inl rfl) b b0, gmul_one_r])
      clear a0 b0
      go_enter Try.func3, Try.ntmps3
      go_wp2_with fail
      refine (wakes7_any _).mono ?_
      rintro e w1 ⟨rfl, hk1⟩
      go_wp2_with fail
      refine (make7_any _).mono ?_
      rintro e w2 ⟨p, rfl, hT, hp, hk2⟩
      have HT0 := Lib.hid hT
      have HK0 := Lib.hid (hk1.andThen hk2)
      clear hT hk1 hk2 hp
      go_wp2_with fail
      refine (inv7_z p _ _ HT0.out HA.out).mono ?_
      rintro e v1 ⟨rfl, t1, k1⟩
      have HT1 := Lib.hid t1
      have HK1 := Lib.hid (HK0.out.andThen k1)
      clear t1 k1 HT0 HK0
      go_wp2_with fail
      refine (div7_v p a b _ _ q _ HT1.out rfl rfl HB0.out Hq.out).mono ?_
      rintro e v2 ⟨rfl, t2, k2⟩
      have HT2 := Lib.hid t2
      have HK2 := Lib.hid (HK1.out.andThen k2)
      clear t2 k2 HT1 HK1
      go_wp2_with fail
      refine (mul7_v p a b _ _ ab _ HT2.out rfl rfl Hab.out).mono ?_
      rintro e v3 ⟨rfl, t3, k3⟩
      have HT3 := Lib.hid t3
      have HK3 := Lib.hid (HK2.out.andThen k3)
      clear t3 k3 HT2 HK2
      go_wp2_with fail
      refine (mulR7_v a b _ _ ab _ rfl rfl Hab.out).mono ?_
      rintro e v4 ⟨rfl, rfl⟩
      go_wp2_with fail
      refine (invR7_v a _ _ _ rfl Hia.out).mono ?_
      rintro e v5 ⟨rfl, rfl⟩
      go_wp2_with fail
      refine (mul7_v p (gmul 0x1d a (ginv 0x1d b)) b _ _ _ _ HT3.out Hq.out.symm rfl HB1.out).mono ?_
      rintro e v6 ⟨rfl, t6, k6⟩
      have HT6 := Lib.hid t6
      have HK6 := Lib.hid (HK3.out.andThen k6)
      clear t6 k6 HT3 HK3
      go_wp2
      go_ret
      exact ⟨rfl, HK6.out⟩
  · by_cases b0 : b = 0
    · have z1 : ((a.toNat : Int) == 0) = false := by have : a.toNat ≠ 0 := fun h => a0 (UInt8.toNat_inj.1 h); simp; omega
      have HA0 := Lib.hid a0
      have HA1 : Hid (((gmul 0x1d a (ginv 0x1d a)).toNat : Int) = 1) := Lib.hid (by rw [gmul_inv (.inl rfl) a a0]; rfl)
      have z2 : ((b.toNat : Int) == 0) = true := by rw [b0]; rfl
      have HB : Hid ((b.toNat : Int) = 0) := Lib.hid (by rw [b0]; rfl)
      clear a0 b0
      go_enter Try.func3, Try.ntmps3
      go_wp2_with fail
      refine (wakes7_any _).mono ?_
      rintro e w1 ⟨rfl, hk1⟩
      go_wp2_with fail
      refine (make7_any _).mono ?_
      rintro e w2 ⟨p, rfl, hT, hp, hk2⟩
      have HT0 := Lib.hid hT
      have HK0 := Lib.hid (hk1.andThen hk2)
      clear hT hk1 hk2 hp
      go_wp2_with fail
      refine (inv7_v p a _ ia _ HT0.out rfl HA0.out Hia.out).mono ?_
      rintro e v1 ⟨rfl, t1, k1⟩
      have HT1 := Lib.hid t1
      have HK1 := Lib.hid (HK0.out.andThen k1)
      clear t1 k1 HT0 HK0
      go_wp2_with fail
      refine (div7_z p _ _ _ HT1.out HB.out).mono ?_
      rintro e v2 ⟨rfl, t2, k2⟩
      have HT2 := Lib.hid t2
      have HK2 := Lib.hid (HK1.out.andThen k2)
      clear t2 k2 HT1 HK1
      go_wp2_with fail
      refine (mul7_v p a b _ _ ab _ HT2.out rfl rfl Hab.out).mono ?_
      rintro e v3 ⟨rfl, t3, k3⟩
      have HT3 := Lib.hid t3
      have HK3 := Lib.hid (HK2.out.andThen k3)
      clear t3 k3 HT2 HK2
      go_wp2_with fail
      refine (mulR7_v a b _ _ ab _ rfl rfl Hab.out).mono ?_
      rintro e v4 ⟨rfl, rfl⟩
      go_wp2_with fail
      refine (invR7_v a _ _ _ rfl Hia.out).mono ?_
      rintro e v5 ⟨rfl, rfl⟩
      go_wp2_with fail
      refine (mul7_v p a (ginv 0x1d a) _ _ 1 _ HT3.out rfl Hia.out.symm HA1.out).mono ?_
      rintro e v6 ⟨rfl, t6, k6⟩
      have HT6 := Lib.hid t6
      have HK6 := Lib.hid (HK3.out.andThen k6)
      clear t6 k6 HT3 HK3
      go_wp2
      go_ret
      exact ⟨rfl, HK6.out⟩
    · have z1 : ((a.toNat : Int) == 0) = false := by have : a.toNat ≠ 0 := fun h => a0 (UInt8.toNat_inj.1 h); simp; omega
      have HA0 := Lib.hid a0
      have HA1 : Hid (((gmul 0x1d a (ginv 0x1d a)).toNat : Int) = 1) := Lib.hid (by rw [gmul_inv (.inl rfl) a a0]; rfl)
      have z2 : ((b.toNat : Int) == 0) = false := by have : b.toNat ≠ 0 := fun h => b0 (UInt8.toNat_inj.1 h); simp; omega
      have HB0 := Lib.hid b0
      have HB1 : Hid (((gmul 0x1d (gmul 0x1d a (ginv 0x1d b)) b).toNat : Int) = (a.toNat : Int)) := Lib.hid (by rw [gmul_assoc (.inl rfl), gmul_comm (.inl rfl) (ginv 0x1d b) b, gmul_inv (.inl rfl) b b0, gmul_one_r])
      clear a0 b0
      go_enter Try.func3, Try.ntmps3
      go_wp2_with fail
      refine (wakes7_any _).mono ?_
      rintro e w1 ⟨rfl, hk1⟩
      go_wp2_with fail
      refine (make7_any _).mono ?_
      rintro e w2 ⟨p, rfl, hT, hp, hk2⟩
      have HT0 := Lib.hid hT
      have HK0 := Lib.hid (hk1.andThen hk2)
      clear hT hk1 hk2 hp
      go_wp2_with fail
      refine (inv7_v p a _ ia _ HT0.out rfl HA0.out Hia.out).mono ?_
      rintro e v1 ⟨rfl, t1, k1⟩
      have HT1 := Lib.hid t1
      have HK1 := Lib.hid (HK0.out.andThen k1)
      clear t1 k1 HT0 HK0
      go_wp2_with fail
      refine (div7_v p a b _ _ q _ HT1.out rfl rfl HB0.out Hq.out).mono ?_
      rintro e v2 ⟨rfl, t2, k2⟩
      have HT2 := Lib.hid t2
      have HK2 := Lib.hid (HK1.out.andThen k2)
      clear t2 k2 HT1 HK1
      go_wp2_with fail
      refine (mul7_v p a b _ _ ab _ HT2.out rfl rfl Hab.out).mono ?_
      rintro e v3 ⟨rfl, t3, k3⟩
      have HT3 := Lib.hid t3
      have HK3 := Lib.hid (HK2.out.andThen k3)
      clear t3 k3 HT2 HK2
      go_wp2_with fail
      refine (mulR7_v a b _ _ ab _ rfl rfl Hab.out).mono ?_
      rintro e v4 ⟨rfl, rfl⟩
      go_wp2_with fail
      refine (invR7_v a _ _ _ rfl Hia.out).mono ?_
      rintro e v5 ⟨rfl, rfl⟩
      go_wp2_with fail
      refine (mul7_v p a (ginv 0x1d a) _ _ 1 _ HT3.out rfl Hia.out.symm HA1.out).mono ?_
      rintro e v6 ⟨rfl, t6, k6⟩
      have HT6 := Lib.hid t6
      have HK6 := Lib.hid (HK3.out.andThen k6)
      clear t6 k6 HT3 HK3
      go_wp2_with fail
      refine (mul7_v p (gmul 0x1d a (ginv 0x1d b)) b _ _ _ _ HT6.out Hq.out.symm rfl HB1.out).mono ?_
      rintro e v7 ⟨rfl, t7, k7⟩
      have HT7 := Lib.hid t7
      have HK7 := Lib.hid (HK6.out.andThen k7)
      clear t7 k7 HT6 HK6
      go_wp2
      go_ret
      exact ⟨rfl, HK7.out⟩
end Go.Proofs.Ytmoelakdfgggfaa
