/-
  Walk of layer 7's law GfExp. No statement of the seed is proved here.
-/
import Derived.Test.YtmoelakdfgggfaaLaw7a
namespace Go.Proofs.Ytmoelakdfgggfaa
open Go.RowKit
set_option linter.unusedVariables false

set_option maxRecDepth 100000 in
set_option maxHeartbeats 4000000 in
theorem exp_walk (n za zb' : Int) (w : World) (hn : (Lit.int .i64 n).wf = true) (ha : (Lit.int .u8 za).wf = true) (hb : (Lit.int .u8 zb').wf = true) :
    Calls Try.prog 5 #[.int .i64 n, .int .u8 za, .int .u8 zb'] w fun e w' => e = .returned (.bool true) ∧ Kept [] w w' := by
  obtain ⟨a, rfl⟩ := byte_of_int ha
  obtain ⟨b, rfl⟩ := byte_of_int hb
  have hal := a.toNat_lt
  have hbl := b.toNat_lt
  clear ha hb hn
  obtain ⟨gn, hgn⟩ : ∃ z : Int, ((gpow n).toNat : Int) = z := ⟨_, rfl⟩
  obtain ⟨ga, hga⟩ : ∃ z : Int, ((gpow (a.toNat : Int)).toNat : Int) = z := ⟨_, rfl⟩
  obtain ⟨gb, hgb⟩ : ∃ z : Int, ((gpow (b.toNat : Int)).toNat : Int) = z := ⟨_, rfl⟩
  obtain ⟨gs, hgs⟩ : ∃ z : Int, ((gpow ((a.toNat : Int) + (b.toNat : Int))).toNat : Int) = z := ⟨_, rfl⟩
  have Hm : Hid (((gmul 0x1d (gpow (a.toNat : Int)) (gpow (b.toNat : Int))).toNat : Int) = gs) := Lib.hid (by
    rw [← hgs, gpow_nat, gpow_nat, gexp_add, ← Int.natCast_add, gpow_nat])
  have Hgn := Lib.hid hgn
  have Hga := Lib.hid hga
  have Hgb := Lib.hid hgb
  have Hgs := Lib.hid hgs
  have H255 := Lib.hid gp255
  clear hgn hga hgb hgs
  go_enter Try.func5, Try.ntmps5
  go_wp2_with fail
  refine (wakes7_any _).mono ?_
  rintro e w1 ⟨rfl, hk1⟩
  go_wp2_with fail
  refine (make7_any _).mono ?_
  rintro e w2 ⟨p, rfl, hT, hp, hk2⟩
  have HT0 := Lib.hid hT
  have HK0 := Lib.hid (hk1.andThen hk2)
  clear hT hk1 hk2 hp
  go_wp2_with fail
  refine (exp7_v p n gn _ HT0.out Hgn.out).mono ?_
  rintro e v1 ⟨rfl, t1, k1⟩
  have HT1 := Lib.hid t1
  have HK1 := Lib.hid (HK0.out.andThen k1)
  clear t1 k1 HT0 HK0
  go_wp2_with fail
  refine (expR7_v n gn _ Hgn.out).mono ?_
  rintro e v2 ⟨rfl, rfl⟩
  go_wp2_with fail
  refine (exp7_v p _ ga _ HT1.out Hga.out).mono ?_
  rintro e v3 ⟨rfl, t3, k3⟩
  have HT3 := Lib.hid t3
  have HK3 := Lib.hid (HK1.out.andThen k3)
  clear t3 k3 HT1 HK1
  go_wp2_with fail
  refine (exp7_v p _ gb _ HT3.out Hgb.out).mono ?_
  rintro e v4 ⟨rfl, t4, k4⟩
  have HT4 := Lib.hid t4
  have HK4 := Lib.hid (HK3.out.andThen k4)
  clear t4 k4 HT3 HK3
  go_wp2_with fail
  refine (mul7_v p (gpow (a.toNat : Int)) (gpow (b.toNat : Int)) _ _ gs _ HT4.out Hga.out.symm Hgb.out.symm Hm.out).mono ?_
  rintro e v5 ⟨rfl, t5, k5⟩
  have HT5 := Lib.hid t5
  have HK5 := Lib.hid (HK4.out.andThen k5)
  clear t5 k5 HT4 HK4
  go_wp2_with fail
  refine (exp7_v p _ gs _ HT5.out Hgs.out).mono ?_
  rintro e v6 ⟨rfl, t6, k6⟩
  have HT6 := Lib.hid t6
  have HK6 := Lib.hid (HK5.out.andThen k6)
  clear t6 k6 HT5 HK5
  go_wp2_with fail
  refine (exp7_v p 255 1 _ HT6.out H255.out).mono ?_
  rintro e v7 ⟨rfl, t7, k7⟩
  have HT7 := Lib.hid t7
  have HK7 := Lib.hid (HK6.out.andThen k7)
  clear t7 k7 HT6 HK6
  go_wp2
  go_ret
  exact ⟨rfl, HK7.out⟩
end Go.Proofs.Ytmoelakdfgggfaa
