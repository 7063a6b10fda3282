/-
  The walk of a law of layer 6: any number of sixteen bytes and another one are the number that the document says; added in two pieces it is the same. No statement of the seed is proved here.
-/
import Derived.Test.YtblcamkdkjobbaaLaw6a
import Derived.Test.YtblcamkdkjobbaaRc1
import Derived.Test.YtblcamkdkjobbaaPures
import Derived.OpenShut
namespace Go.Proofs.Ytblcamkdkjobbaa
open Go.RowKit
set_option linter.unusedVariables false

set_option maxRecDepth 100000 in
set_option maxHeartbeats 2000000 in
theorem count_walk (x : List UInt8) (za zb' : Int) (w : World) (hxl : x.length = 16) (ha : (Lit.int .u32 za).wf = true) (hb : (Lit.int .u32 zb').wf = true) :
    Calls Try.prog 4 #[.agg (bvs x).toArray, .int .u32 za, .int .u32 zb'] w fun e w' => e = .returned (.bool true) ∧ Kept [] w w' := by
  obtain ⟨a0, a1⟩ := bounds_u32 ha
  obtain ⟨b0, b1⟩ := bounds_u32 hb
  obtain ⟨a, rfl⟩ : ∃ a : Nat, za = (a : Int) := ⟨za.toNat, by omega⟩
  obtain ⟨b, rfl⟩ : ∃ b : Nat, zb' = (b : Int) := ⟨zb'.toNat, by omega⟩
  have Hxl := Lib.hid hxl
  have Hsx := Lib.hid (size_of_len (P := Try.prog) (ty := 24) size16 hxl)
  have hB0 := Blk.new w 24 (bvs x)
  have kB : Kept [] w (w.alloc (.cells (bvs x).toArray 24)) := (Kept.refl [] w).alloc _
  obtain ⟨g, hg⟩ : ∃ g, g = w.heap.size := ⟨_, rfl⟩
  rw [← hg] at hB0
  have G0 := Lib.hid hg
  clear ha hb hxl hg
  obtain ⟨n, hn⟩ : ∃ n : Nat, n = a * 2147483648 := ⟨_, rfl⟩
  have q1 : (a : Int) * 2147483648 = (n : Int) := by omega
  have hn1 : n < 18446744073709551616 := by omega
  clear hn
  go_enter Try.func4, Try.ntmps4
  go_wp2_with (with_reducible change wpList _ _ _ (⟨_, Op.box _ _, _, _, _, _⟩ :: _) _ _; refine Great.wpList_boxTo rfl 24 _ rfl _ rfl g G0.out.symm (bvs x).toArray rfl ?_; generalize w.alloc (.cells (bvs x).toArray 24) = w1 at *)
  clear G0
  refine (wakes6_any _).mono ?_
  rintro e w2 ⟨rfl, hk2⟩
  have hB2 := hB0.kept0 hk2
  have hK2 := kB.andThen hk2
  clear hB0 kB hk2
  have SK := Lib.hid (fun W (h : Kept [] w2 W) => (hB2.kept0 h).rangeOf)
  clear hB2
  have heq : ∀ W, (Op.equalIn 10000 24 (.agg (bvs (cnt x n)).toArray) (.agg (bvs (cnt x n)).toArray)).run Try.prog W = .ok true W := fun W => by
    have h := run_eq16 (cnt x n) (cnt x n) (cnt_length _ _) (cnt_length _ _) W
    rwa [beq_self_eq_true] at h
  have heq2 : ∀ W, (Op.equalIn 10000 24 (.agg (bvs (cnt x (a + b))).toArray) (.agg (bvs (cnt x (a + b))).toArray)).run Try.prog W = .ok true W := fun W => by
    have h := run_eq16 (cnt x (a + b)) (cnt x (a + b)) (cnt_length _ _) (cnt_length _ _) W
    rwa [beq_self_eq_true] at h
  go_wp2
  have hHeld := SK.out _ (Kept.refl [] w2).drew
  refine wp_region_begin (fun w' => w'.rangeAt g 0 (bvs x)) (by kernel_rfl) ?_
  refine held_loadD 0 13 rfl rfl (by kernel_rfl) (by kernel_rfl) (by kernel_rfl) rfl 24 (.tmp 3) rfl g 0 rfl (bvs x) _ (fun w h => h) arr16b rfl Hsx.out hHeld ?_
  simp only [Act.put, List.setIfInBounds_toArray, List.set_cons_succ, List.set_cons_zero]
  refine held_pureD 1 14 (.int .u64 (n : Int)) rfl rfl (by kernel_rfl) (by kernel_rfl) (by kernel_rfl) rfl (fun w _ => rfl) hHeld ?_
  simp only [Act.put, List.setIfInBounds_toArray, List.set_cons_succ, List.set_cons_zero]
  refine held_loadD 3 16 rfl rfl (by kernel_rfl) (by kernel_rfl) (by kernel_rfl) rfl 24 (.tmp 3) rfl g 0 rfl (bvs x) _ (fun w h => h) arr16b rfl Hsx.out hHeld ?_
  simp only [Act.put, List.setIfInBounds_toArray, List.set_cons_succ, List.set_cons_zero]
  refine held_pureD 4 17 (.int .u64 (n : Int)) rfl rfl (by kernel_rfl) (by kernel_rfl) (by kernel_rfl) rfl (fun w _ => rfl) hHeld ?_
  simp only [Act.put, List.setIfInBounds_toArray, List.set_cons_succ, List.set_cons_zero]
  refine held_one 2 (by kernel_rfl) rfl ?_
  go_wp2_with fail
  refine (count_any x n _ _ Hxl.out hn1 rfl).mono ?_
  rintro e w3 ⟨rfl, hk3⟩
  have hK3 := (Kept.refl [] w2).drew.andThen hk3
  clear hk3
  go_wp2
  change _ ∧ wpAnyH _ _ _ _ _ _ _ _ _
  refine ⟨SK.out _ hK3, ?_⟩
  refine held_one 5 (by kernel_rfl) rfl ?_
  go_wp2_with fail
  refine (rcount_any x n _ _ Hxl.out hn1 rfl).mono ?_
  rintro e w4 ⟨rfl, hk4⟩
  have hK4 := hK3.andThen hk4
  clear hk4
  go_wp2
  change _ ∧ wpAnyH _ _ _ _ _ _ _ _ _
  refine ⟨SK.out _ hK4, ?_⟩
  refine held_one 6 (by kernel_rfl) rfl ?_
  go_wp2
  change _ ∧ wpAnyH _ _ _ _ _ _ _ _ _
  refine ⟨SK.out _ hK4, ?_⟩
  refine held_one 7 (by kernel_rfl) rfl ?_
  go_wp2
  change _ ∧ wpAnyH _ _ _ _ _ _ _ _ _
  refine ⟨SK.out _ hK4, ?_⟩
  have hHeld := SK.out _ hK4
  refine held_loadD 8 21 rfl rfl (by kernel_rfl) (by kernel_rfl) (by kernel_rfl) rfl 24 (.tmp 3) rfl g 0 rfl (bvs x) _ (fun w h => h) arr16b rfl Hsx.out hHeld ?_
  simp only [Act.put, List.setIfInBounds_toArray, List.set_cons_succ, List.set_cons_zero]
  refine held_pureD 9 22 (.int .u32 (a : Int)) rfl rfl (by kernel_rfl) (by kernel_rfl) (by kernel_rfl) rfl (fun w _ => rfl) hHeld ?_
  simp only [Act.put, List.setIfInBounds_toArray, List.set_cons_succ, List.set_cons_zero]
  refine held_pureD 10 23 (.int .u64 (a : Int)) rfl rfl (by kernel_rfl) (by kernel_rfl) (by kernel_rfl) rfl (fun w _ => pure_conv 33 34 (.tmp 22) rfl .u32 .u64 _ _ rfl (by kernel_rfl) (by kernel_rfl) (IntWalk.u64_in _ (by omega)) w) hHeld ?_
  simp only [Act.put, List.setIfInBounds_toArray, List.set_cons_succ, List.set_cons_zero]
  refine held_pureD 12 25 (.int .u32 (b : Int)) rfl rfl (by kernel_rfl) (by kernel_rfl) (by kernel_rfl) rfl (fun w _ => rfl) hHeld ?_
  simp only [Act.put, List.setIfInBounds_toArray, List.set_cons_succ, List.set_cons_zero]
  refine held_pureD 13 26 (.int .u64 (b : Int)) rfl rfl (by kernel_rfl) (by kernel_rfl) (by kernel_rfl) rfl (fun w _ => pure_conv 33 34 (.tmp 25) rfl .u32 .u64 _ _ rfl (by kernel_rfl) (by kernel_rfl) (IntWalk.u64_in _ (by omega)) w) hHeld ?_
  simp only [Act.put, List.setIfInBounds_toArray, List.set_cons_succ, List.set_cons_zero]
  refine held_loadD 15 28 rfl rfl (by kernel_rfl) (by kernel_rfl) (by kernel_rfl) rfl 24 (.tmp 3) rfl g 0 rfl (bvs x) _ (fun w h => h) arr16b rfl Hsx.out hHeld ?_
  simp only [Act.put, List.setIfInBounds_toArray, List.set_cons_succ, List.set_cons_zero]
  refine held_pureD 16 29 (.int .u32 (a : Int)) rfl rfl (by kernel_rfl) (by kernel_rfl) (by kernel_rfl) rfl (fun w _ => rfl) hHeld ?_
  simp only [Act.put, List.setIfInBounds_toArray, List.set_cons_succ, List.set_cons_zero]
  refine held_pureD 17 30 (.int .u64 (a : Int)) rfl rfl (by kernel_rfl) (by kernel_rfl) (by kernel_rfl) rfl (fun w _ => pure_conv 33 34 (.tmp 29) rfl .u32 .u64 _ _ rfl (by kernel_rfl) (by kernel_rfl) (IntWalk.u64_in _ (by omega)) w) hHeld ?_
  simp only [Act.put, List.setIfInBounds_toArray, List.set_cons_succ, List.set_cons_zero]
  refine held_pureD 18 31 (.int .u32 (b : Int)) rfl rfl (by kernel_rfl) (by kernel_rfl) (by kernel_rfl) rfl (fun w _ => rfl) hHeld ?_
  simp only [Act.put, List.setIfInBounds_toArray, List.set_cons_succ, List.set_cons_zero]
  refine held_pureD 19 32 (.int .u64 (b : Int)) rfl rfl (by kernel_rfl) (by kernel_rfl) (by kernel_rfl) rfl (fun w _ => pure_conv 33 34 (.tmp 31) rfl .u32 .u64 _ _ rfl (by kernel_rfl) (by kernel_rfl) (IntWalk.u64_in _ (by omega)) w) hHeld ?_
  simp only [Act.put, List.setIfInBounds_toArray, List.set_cons_succ, List.set_cons_zero]
  refine held_pureD 20 33 (.int .u64 ((a : Int) + (b : Int))) rfl rfl (by kernel_rfl) (by kernel_rfl) (by kernel_rfl) rfl (fun w _ => pure_add 34 _ (.tmp 30) (.tmp 32) rfl .u64 _ _ _ rfl rfl (IntWalk.u64_in _ (by omega)) w) hHeld ?_
  simp only [Act.put, List.setIfInBounds_toArray, List.set_cons_succ, List.set_cons_zero]
  refine held_one 11 (by kernel_rfl) rfl ?_
  go_wp2_with fail
  refine (count_any x a _ _ Hxl.out (by omega) rfl).mono ?_
  rintro e w5 ⟨rfl, hk5⟩
  have hK5 := hK4.andThen hk5
  clear hk5
  go_wp2
  change _ ∧ wpAnyH _ _ _ _ _ _ _ _ _
  refine ⟨SK.out _ hK5, ?_⟩
  refine held_one 14 (by kernel_rfl) rfl ?_
  go_wp2_with fail
  refine (count_any (cnt x a) b _ _ (cnt_length _ _) (by omega) rfl).mono ?_
  rw [cnt_add]
  rintro e w6 ⟨rfl, hk6⟩
  have hK6 := hK5.andThen hk6
  clear hk6
  go_wp2
  change _ ∧ wpAnyH _ _ _ _ _ _ _ _ _
  refine ⟨SK.out _ hK6, ?_⟩
  refine held_one 21 (by kernel_rfl) rfl ?_
  go_wp2_with fail
  refine (count_any x (a + b) _ _ Hxl.out (by omega) (by omega)).mono ?_
  rintro e w7 ⟨rfl, hk7⟩
  have hK7 := hK6.andThen hk7
  clear hk7
  go_wp2
  change _ ∧ wpAnyH _ _ _ _ _ _ _ _ _
  refine ⟨SK.out _ hK7, ?_⟩
  refine held_one 22 (by kernel_rfl) rfl ?_
  go_wp2
  change _ ∧ wpAnyH _ _ _ _ _ _ _ _ _
  refine ⟨SK.out _ hK7, ?_⟩
  refine held_one 23 (by kernel_rfl) rfl ?_
  go_wp2
  change _ ∧ wpAnyH _ _ _ _ _ _ _ _ _
  refine ⟨SK.out _ hK7, ?_⟩
  refine held_one 24 (by kernel_rfl) rfl ?_
  go_wp2
  change _ ∧ wpAnyH _ _ _ _ _ _ _ _ _
  refine ⟨SK.out _ hK7, ?_⟩
  refine held_done (by kernel_rfl) ?_
  go_wp2
  go_ret
  exact ⟨rfl, hK2.andThen hK7⟩
end Go.Proofs.Ytblcamkdkjobbaa
