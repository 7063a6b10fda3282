/-
  Contracts of layer 12 (draws), where draws are not there. No statement of the seed is proved here.
-/
import Derived.Test.YtmhigipljplgdaaDoorDw3
import Derived.Test.YtmhigipljplgdaaDoorLaw12n
namespace Go.Proofs.YtmhigipljplgdaaDoor
open Go.RowKit
set_option linter.unusedVariables false

theorem dSomeN (w : World) (z : Int) (hz1 : -9223372036854775808 ≤ z) (hz2 : z ≤ 9223372036854775807) :
    Calls Tryd.prog 9 #[.pointer none, .int .i64 z] w fun e w' => ∃ A n c, e = .returned (.tuple #[.slice A n c, .int .i64 15]) ∧ Kept [] w w' := by
  go_enter Tryd.func9, Tryd.ntmps9
  go_wp2
  go_ret2
  exact ⟨none, 0, 0, rfl, Kept.refl _ _⟩
set_option maxHeartbeats 1000000 in
theorem dNextN (w : World) : Calls Tryd.prog 8 #[.pointer none] w fun e w' => e = .returned (.tuple #[.agg (zb 32).toArray, .int .i64 15]) ∧ Kept [] w w' := by
  have HB0 := Lib.hid builtKeyD
  go_enter Tryd.func8, Tryd.ntmps8
  go_wp2_with (with_reducible change wpList _ _ _ (⟨_, Op.alloc _, _, _, _, _⟩ :: _) _ _; refine wpList_alloc_blk rfl 32 rfl _ zero32 ?_)
  intro w1 hR1 hk1 hs1
  obtain ⟨r, hr⟩ : ∃ r, r = w.heap.size := ⟨_, rfl⟩
  rw [← hr] at hR1 ⊢
  have Hr : Hid (w.heap.size ≤ r) := Lib.hid (by omega)
  have HK1 := Lib.hid hk1
  have HR1 := Lib.hid hR1
  clear hr hk1 hs1 hR1
  go_wp2_with fail
  refine (dSomeN _ 1 (by omega) (by omega)).mono ?_
  rintro e w2 ⟨A, n, c, rfl, hk2⟩
  have HR2 := Lib.hid (HR1.out.kept0 hk2)
  have HK2 := Lib.hid (HK1.out.andThen hk2)
  clear hk2 HR1 HK1
  go_wp2_with (first
    | (with_reducible change wpList _ _ _ (⟨_, Op.build _ _, _, _, _, _⟩ :: _) _ _; refine Great.wpList_buildTo rfl 32 _ rfl _ rfl (zb 32).toArray (by simpa [Act.eval, Act.put] using HB0.out) ?_)
    | (with_reducible change wpList _ _ _ (⟨_, Op.store _ _ _, _, _, _, _⟩ :: _) _ _; refine wpList_store_blk rfl 32 (.tmp 2) (.tmp 13) rfl r (zb 32) rfl rfl 32 (zb 32) HR2.out zb_size rfl zb_one ?_))
  intro w3 hR3 hk3 hs3
  go_wp2
  refine bodyPost_ret (results_blk2 rfl _ r 32 _ _ _ rfl rfl hR3 arr32b rfl zb_size) rfl ?_
  exact ⟨rfl, HK2.out.trans hk3 (fun i hi => .inr (by have := List.mem_singleton.1 hi; have := Hr.out; omega))⟩
set_option maxHeartbeats 1000000 in
theorem dIdN (w : World) : Calls Tryd.prog 11 #[.pointer none] w fun e w' => e = .returned (.tuple #[.agg (zb 16).toArray, .int .i64 15]) ∧ Kept [] w w' := by
  have HB0 := Lib.hid builtId
  go_enter Tryd.func11, Tryd.ntmps11
  go_wp2_with (with_reducible change wpList _ _ _ (⟨_, Op.alloc _, _, _, _, _⟩ :: _) _ _; refine wpList_alloc_blk rfl 40 rfl _ zeroId ?_)
  intro w1 hR1 hk1 hs1
  obtain ⟨r, hr⟩ : ∃ r, r = w.heap.size := ⟨_, rfl⟩
  rw [← hr] at hR1 ⊢
  have Hr : Hid (w.heap.size ≤ r) := Lib.hid (by omega)
  have HK1 := Lib.hid hk1
  have HR1 := Lib.hid hR1
  clear hr hk1 hs1 hR1
  go_wp2_with fail
  refine (dNextN _).mono ?_
  rintro e w2 ⟨rfl, hk2⟩
  have HR2 := Lib.hid (HR1.out.kept0 hk2)
  have HK2 := Lib.hid (HK1.out.andThen hk2)
  clear hk2 HR1 HK1
  go_wp2_with (with_reducible change wpList _ _ _ (⟨_, Op.alloc _, _, _, _, _⟩ :: _) _ _; refine wpList_alloc_blk rfl 32 rfl _ zero32 ?_)
  intro w3 hG3 hk3 hs3
  obtain ⟨g, hg⟩ : ∃ g, g = w2.heap.size := ⟨_, rfl⟩
  rw [← hg] at hG3 ⊢
  have hrg : r ≠ g := by have := HR2.out.lt; omega
  have Hg : Hid (w.heap.size ≤ g) := Lib.hid (by have := HK2.out.size; omega)
  have HR3 := Lib.hid (HR2.out.kept0 hk3)
  have HK3 := Lib.hid (HK2.out.andThen hk3)
  clear hs3 hg hk3 HK2
  go_wp2_with (with_reducible change wpList _ _ _ (⟨_, Op.store _ _ _, _, _, _, _⟩ :: _) _ _; refine wpList_store_blk rfl 32 (.tmp 4) (.tmp 10) rfl g (zb 32) rfl rfl 32 (zb 32) hG3 zb_size rfl zb_one ?_)
  intro w4 hG4 hk4 hs4
  have HR4 := Lib.hid (HR3.out.kept hk4 (by simpa using hrg))
  have HK4 : Hid (Kept [] w w4) := Lib.hid (HK3.out.trans hk4 (fun i hi => .inr (by have := List.mem_singleton.1 hi; have := Hg.out; omega)))
  clear hG3 hG4 hk4 hs4 HR3 HR2 HK3
  go_wp2_with (first
    | (with_reducible change wpList _ _ _ (⟨_, Op.build _ _, _, _, _, _⟩ :: _) _ _; refine Great.wpList_buildTo rfl 40 _ rfl _ rfl (zb 16).toArray (by simpa [Act.eval, Act.put] using HB0.out) ?_)
    | (with_reducible change wpList _ _ _ (⟨_, Op.store _ _ _, _, _, _, _⟩ :: _) _ _; refine wpList_store_blk rfl 40 (.tmp 2) (.tmp 14) rfl r (zb 16) rfl rfl 40 (zb 16) HR4.out zb16_size rfl zb16_one ?_))
  intro w5 hR5 hk5 hs5
  go_wp2
  refine bodyPost_ret (results_blk2 rfl _ r 40 _ _ _ rfl rfl hR5 arrId rfl zb16_size) rfl ?_
  exact ⟨rfl, HK4.out.trans hk5 (fun i hi => .inr (by have := List.mem_singleton.1 hi; have := Hr.out; omega))⟩
theorem dMoreN (A : Option Addr) (n c : Nat) (w : World) : Calls Tryd.prog 13 #[.pointer none, .slice A n c] w fun e w' => e = .returned (.tuple #[]) ∧ Kept [] w w' := by
  go_enter Tryd.func13, Tryd.ntmps13
  go_wp2
  go_end0
  exact ⟨rfl, Kept.refl _ _⟩
theorem dLeftN (w : World) : Calls Tryd.prog 14 #[.pointer none] w fun e w' => e = .returned (.int .i64 0) ∧ Kept [] w w' := by
  go_enter Tryd.func14, Tryd.ntmps14
  go_wp2
  go_ret
  exact ⟨rfl, Kept.refl _ _⟩
theorem drNil : DrNil where
  next := dNextN
  some_ := dSomeN
  id_ := dIdN
  more := fun A n c _ w _ => dMoreN A n c w
  left_ := dLeftN
end Go.Proofs.YtmhigipljplgdaaDoor
