/-
  Walk of layer 7's law GfField. No statement of the seed is proved here.
-/
import Derived.Test.YtmoelakdfgggfaaLaw7a
namespace Go.Proofs.Ytmoelakdfgggfaa
open Go.RowKit
set_option linter.unusedVariables false

theorem zero_cases (a b : UInt8) (ab : Int) (h : ((gmul 0x1d a b).toNat : Int) = ab) :
    (((a.toNat : Int) == 0) = true ∧ (ab == 0) = true) ∨ (((a.toNat : Int) == 0) = false ∧ ((b.toNat : Int) == 0) = true ∧ (ab == 0) = true) ∨ (((a.toNat : Int) == 0) = false ∧ ((b.toNat : Int) == 0) = false ∧ (ab == 0) = false) := by
  subst h
  by_cases ha : a = 0
  · subst ha; rw [gmul_zero_l]; exact .inl ⟨rfl, rfl⟩
  · have hna : a.toNat ≠ 0 := fun h => ha (UInt8.toNat_inj.1 h)
    by_cases hb : b = 0
    · subst hb; rw [gmul_zero_r]; exact .inr (.inl ⟨by simp; omega, rfl, rfl⟩)
    · have hnb : b.toNat ≠ 0 := fun h => hb (UInt8.toNat_inj.1 h)
      have hab := gmul_ne (.inl rfl) ha hb
      have hnab : (gmul 0x1d a b).toNat ≠ 0 := fun h => hab (UInt8.toNat_inj.1 h)
      exact .inr (.inr ⟨by simp; omega, by simp; omega, by simp; omega⟩)
set_option maxRecDepth 100000 in
set_option maxHeartbeats 4000000 in
theorem field_walk (za zb' zc : Int) (w : World) (ha : (Lit.int .u8 za).wf = true) (hb : (Lit.int .u8 zb').wf = true) (hc : (Lit.int .u8 zc).wf = true) :
    Calls Try.prog 4 #[.int .u8 za, .int .u8 zb', .int .u8 zc] w fun e w' => e = .returned (.bool true) ∧ Kept [] w w' := by
  obtain ⟨a, rfl⟩ := byte_of_int ha
  obtain ⟨b, rfl⟩ := byte_of_int hb
  obtain ⟨c, rfl⟩ := byte_of_int hc
  clear ha hb hc
  obtain ⟨ab, hab⟩ : ∃ z : Int, ((gmul 0x1d a b).toNat : Int) = z := ⟨_, rfl⟩
  obtain ⟨bc, hbc⟩ : ∃ z : Int, ((gmul 0x1d b c).toNat : Int) = z := ⟨_, rfl⟩
  obtain ⟨ac, hac⟩ : ∃ z : Int, ((gmul 0x1d a c).toNat : Int) = z := ⟨_, rfl⟩
  obtain ⟨t, ht⟩ : ∃ z : Int, ((gmul 0x1d a (gmul 0x1d b c)).toNat : Int) = z := ⟨_, rfl⟩
  obtain ⟨s, hs⟩ : ∃ z : Int, ((b ^^^ c).toNat : Int) = z := ⟨_, rfl⟩
  obtain ⟨u, hu⟩ : ∃ z : Int, ((gmul 0x1d a (b ^^^ c)).toNat : Int) = z := ⟨_, rfl⟩
  have Hz := Lib.hid (zero_cases a b ab hab)
  have Hba : Hid (((gmul 0x1d b a).toNat : Int) = ab) := Lib.hid (by rw [gmul_comm (.inl rfl)]; exact hab)
  have Ht2 : Hid (((gmul 0x1d (gmul 0x1d a b) c).toNat : Int) = t) := Lib.hid (by rw [gmul_assoc (.inl rfl)]; exact ht)
  have H1 : Hid (((gmul 0x1d a 1).toNat : Int) = (a.toNat : Int)) := Lib.hid (by rw [gmul_one_r])
  have hxs : bits .xor .u8 (b.toNat : Int) (c.toNat : Int) = s := by rw [bits_xorB]; exact hs
  have hxu : bits .xor .u8 ab ac = u := by
    rw [← hab, ← hac, bits_xorB, ← hu, gmul_comm (.inl rfl) a (b ^^^ c), gmul_xor, gmul_comm (.inl rfl) b, gmul_comm (.inl rfl) c]
  have Hab := Lib.hid hab
  have Hbc := Lib.hid hbc
  have Hac := Lib.hid hac
  have Ht := Lib.hid ht
  have Hs := Lib.hid hs
  have Hu := Lib.hid hu
  clear hab hbc hac ht hs hu
  go_enter Try.func4, Try.ntmps4
  go_wp2_with fail
  refine (wakes7_any _).mono ?_
  rintro e w1 ⟨rfl, hk1⟩
  go_wp2_with fail
  refine (make7_any _).mono ?_
  rintro e w2 ⟨p, rfl, hT, hp, hk2⟩
  have HT0 := Lib.hid hT
  have HK0 := Lib.hid (hk1.andThen hk2)
  clear hT hk1 hk2 hp
  go_wp2_with fail
  refine (mul7_v p a b _ _ ab _ HT0.out rfl rfl Hab.out).mono ?_
  rintro e v1 ⟨rfl, t1, k1⟩
  have HT1 := Lib.hid t1
  have HK1 := Lib.hid (HK0.out.andThen k1)
  clear t1 k1 HT0 HK0
  go_wp2_with fail
  refine (mul7_v p b a _ _ ab _ HT1.out rfl rfl Hba.out).mono ?_
  rintro e v2 ⟨rfl, t2, k2⟩
  have HT2 := Lib.hid t2
  have HK2 := Lib.hid (HK1.out.andThen k2)
  clear t2 k2 HT1 HK1
  go_wp2_with fail
  refine (mul7_v p b c _ _ bc _ HT2.out rfl rfl Hbc.out).mono ?_
  rintro e v3 ⟨rfl, t3, k3⟩
  have HT3 := Lib.hid t3
  have HK3 := Lib.hid (HK2.out.andThen k3)
  clear t3 k3 HT2 HK2
  go_wp2_with fail
  refine (mul7_v p a (gmul 0x1d b c) _ _ t _ HT3.out rfl Hbc.out.symm Ht.out).mono ?_
  rintro e v4 ⟨rfl, t4, k4⟩
  have HT4 := Lib.hid t4
  have HK4 := Lib.hid (HK3.out.andThen k4)
  clear t4 k4 HT3 HK3
  go_wp2_with fail
  refine (mul7_v p a b _ _ ab _ HT4.out rfl rfl Hab.out).mono ?_
  rintro e v5 ⟨rfl, t5, k5⟩
  have HT5 := Lib.hid t5
  have HK5 := Lib.hid (HK4.out.andThen k5)
  clear t5 k5 HT4 HK4
  go_wp2_with fail
  refine (mul7_v p (gmul 0x1d a b) c _ _ t _ HT5.out Hab.out.symm rfl Ht2.out).mono ?_
  rintro e v6 ⟨rfl, t6, k6⟩
  have HT6 := Lib.hid t6
  have HK6 := Lib.hid (HK5.out.andThen k6)
  clear t6 k6 HT5 HK5
  go_wp2_with fail
  refine (mul7_v p a (b ^^^ c) _ _ u _ HT6.out rfl Hs.out.symm Hu.out).mono ?_
  rintro e v7 ⟨rfl, t7, k7⟩
  have HT7 := Lib.hid t7
  have HK7 := Lib.hid (HK6.out.andThen k7)
  clear t7 k7 HT6 HK6
  go_wp2_with fail
  refine (mul7_v p a b _ _ ab _ HT7.out rfl rfl Hab.out).mono ?_
  rintro e v8 ⟨rfl, t8, k8⟩
  have HT8 := Lib.hid t8
  have HK8 := Lib.hid (HK7.out.andThen k8)
  clear t8 k8 HT7 HK7
  go_wp2_with fail
  refine (mul7_v p a c _ _ ac _ HT8.out rfl rfl Hac.out).mono ?_
  rintro e v9 ⟨rfl, t9, k9⟩
  have HT9 := Lib.hid t9
  have HK9 := Lib.hid (HK8.out.andThen k9)
  clear t9 k9 HT8 HK8
  go_wp2_with fail
  refine (mul7_v p a b _ _ ab _ HT9.out rfl rfl Hab.out).mono ?_
  rintro e v10 ⟨rfl, t10, k10⟩
  have HT10 := Lib.hid t10
  have HK10 := Lib.hid (HK9.out.andThen k10)
  clear t10 k10 HT9 HK9
  rcases Hz.out with ⟨z1, z2⟩ | ⟨z1, z2, z3⟩ | ⟨z1, z2, z3⟩
  · go_wp2_with fail
    refine (mul7_v p a 1 _ _ _ _ HT10.out rfl rfl H1.out).mono ?_
    rintro e v11 ⟨rfl, t11, k11⟩
    have HT11 := Lib.hid t11
    have HK11 := Lib.hid (HK10.out.andThen k11)
    clear t11 k11 HT10 HK10
    go_wp2
    go_ret
    exact ⟨rfl, HK11.out⟩
  · go_wp2_with fail
    refine (mul7_v p a 1 _ _ _ _ HT10.out rfl rfl H1.out).mono ?_
    rintro e v11 ⟨rfl, t11, k11⟩
    have HT11 := Lib.hid t11
    have HK11 := Lib.hid (HK10.out.andThen k11)
    clear t11 k11 HT10 HK10
    go_wp2
    go_ret
    exact ⟨rfl, HK11.out⟩
  · go_wp2_with fail
    refine (mul7_v p a 1 _ _ _ _ HT10.out rfl rfl H1.out).mono ?_
    rintro e v11 ⟨rfl, t11, k11⟩
    have HT11 := Lib.hid t11
    have HK11 := Lib.hid (HK10.out.andThen k11)
    clear t11 k11 HT10 HK10
    go_wp2
    go_ret
    exact ⟨rfl, HK11.out⟩
end Go.Proofs.Ytmoelakdfgggfaa
