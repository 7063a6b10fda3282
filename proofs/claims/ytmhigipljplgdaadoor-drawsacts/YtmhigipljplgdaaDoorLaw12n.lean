/-
  The walk of a law of layer 12, over whatever contracts the program's functions keep where draws are not there: they tell so. No statement of the seed is proved here.
-/
import Derived.Test.YtmhigipljplgdaaDoorDrI
import Derived.Test.YtmhigipljplgdaaDoorKd3
import Derived.Test.YtmhigipljplgdaaDoorEqId
import Derived.Test.YtmhigipljplgdaaDoorPc
namespace Go.Proofs.YtmhigipljplgdaaDoor
open Go.RowKit
set_option linter.unusedVariables false

structure DrNil : Prop where
  next : ∀ w : World, Calls Tryd.prog 8 #[.pointer none] w fun e w' => e = .returned (.tuple #[.agg (zb 32).toArray, .int .i64 15]) ∧ Kept [] w w'
  some_ : ∀ (w : World) (z : Int), -9223372036854775808 ≤ z → z ≤ 9223372036854775807 → Calls Tryd.prog 9 #[.pointer none, .int .i64 z] w fun e w' => ∃ A n c, e = .returned (.tuple #[.slice A n c, .int .i64 15]) ∧ Kept [] w w'
  id_ : ∀ w : World, Calls Tryd.prog 11 #[.pointer none] w fun e w' => e = .returned (.tuple #[.agg (zb 16).toArray, .int .i64 15]) ∧ Kept [] w w'
  more : ∀ (A : Option Addr) (n c : Nat) (ks : Ks) (w : World), RdK w A n c ks → Calls Tryd.prog 13 #[.pointer none, .slice A n c] w fun e w' => e = .returned (.tuple #[]) ∧ Kept [] w w'
  left_ : ∀ w : World, Calls Tryd.prog 14 #[.pointer none] w fun e w' => e = .returned (.int .i64 0) ∧ Kept [] w w'

set_option maxRecDepth 100000 in
set_option maxHeartbeats 4000000 in
theorem nil12_walk (HD : DrNil)
    (HW : ∀ w : World, Calls Tryd.prog 5 #[] w fun e w' => e = .returned (.bool true) ∧ Kept [] w w')
    (A : Option Addr) (n c : Nat) (ks : Ks) (z : Int) (w : World) (hz1 : -9223372036854775808 ≤ z) (hz2 : z ≤ 9223372036854775807) (hr : RdK w A n c ks) :
    Calls Tryd.prog 4 #[.slice A n c, .int .i64 z] w fun e w' => e = .returned (.bool true) ∧ Kept [] w w' := by
  have HR := Lib.hid hr
  clear hr
  go_enter Tryd.func4, Tryd.ntmps4
  go_wp2_with fail
  refine (HW _).mono ?_
  rintro e w1 ⟨rfl, hk1⟩
  have HK1 := Lib.hid hk1
  clear hk1
  go_wp2_with fail
  refine (HD.more A n c ks _ (HR.out.kept0 HK1.out)).mono ?_
  rintro e w2 ⟨rfl, hk2⟩
  have HK2 := Lib.hid (HK1.out.andThen hk2)
  clear hk2 HK1
  go_wp2_with fail
  refine (HD.next _).mono ?_
  rintro e w3 ⟨rfl, hk3⟩
  have HK3 := Lib.hid (HK2.out.andThen hk3)
  clear hk3 HK2
  go_wp2_with (with_reducible change wpList _ _ _ (⟨_, Op.alloc _, _, _, _, _⟩ :: _) _ _; refine wpList_alloc_blk rfl 32 rfl _ zero32 ?_)
  intro w4 hV4 hk4 hs4
  obtain ⟨y, hy⟩ : ∃ y, y = w3.heap.size := ⟨_, rfl⟩
  rw [← hy] at hV4 hs4 ⊢
  have ly : w3.heap.size ≤ y := by omega
  clear hy hs4
  go_wp2_with (with_reducible change wpList _ _ _ (⟨_, Op.store _ _ _, _, _, _, _⟩ :: _) _ _; refine wpList_store_blk rfl 32 (.tmp 6) (.tmp 20) rfl y (zb 32) rfl rfl 32 (zb 32) hV4 zb_size rfl zb_one ?_)
  intro w5 hV5 hk5 hs5
  have hK5 : Kept [] w3 w5 := hk4.trans hk5 (fun i hi => .inr (by have := List.mem_singleton.1 hi; omega))
  have HK5 := Lib.hid (HK3.out.andThen hK5)
  clear hV4 hk4 hV5 hk5 hs5 hK5 HK3 ly
  go_wp2_with fail
  refine (HD.some_ _ z hz1 hz2).mono ?_
  rintro e w6 ⟨A6, n6, c6, rfl, hk6⟩
  have HK6 := Lib.hid (HK5.out.andThen hk6)
  clear hk6 HK5
  go_wp2_with fail
  refine (HD.id_ _).mono ?_
  rintro e w7 ⟨rfl, hk7⟩
  have HK7 := Lib.hid (HK6.out.andThen hk7)
  clear hk7 HK6
  go_wp2_with (with_reducible change wpList _ _ _ (⟨_, Op.alloc _, _, _, _, _⟩ :: _) _ _; refine wpList_alloc_blk rfl 40 rfl _ zeroId ?_)
  intro w8 hV8 hk8 hs8
  obtain ⟨y8, hy⟩ : ∃ y, y = w7.heap.size := ⟨_, rfl⟩
  rw [← hy] at hV8 hs8 ⊢
  have ly : w7.heap.size ≤ y8 := by omega
  clear hy hs8
  go_wp2_with (with_reducible change wpList _ _ _ (⟨_, Op.store _ _ _, _, _, _, _⟩ :: _) _ _; refine wpList_store_blk rfl 40 (.tmp 10) (.tmp 31) rfl y8 (zb 16) rfl rfl 40 (zb 16) hV8 zb16_size rfl zb16_one ?_)
  intro w9 hV9 hk9 hs9
  have hK9 : Kept [] w7 w9 := hk8.trans hk9 (fun i hi => .inr (by have := List.mem_singleton.1 hi; omega))
  have HK9 := Lib.hid (HK7.out.andThen hK9)
  clear hV8 hk8 hV9 hk9 hs9 hK9 HK7 ly
  go_wp2_with fail
  refine (HD.left_ _).mono ?_
  rintro e w10 ⟨rfl, hk10⟩
  have HK10 := Lib.hid (HK9.out.andThen hk10)
  clear hk10 HK9
  go_wp2
  go_ret
  exact ⟨rfl, HK10.out⟩
end Go.Proofs.YtmhigipljplgdaaDoor
