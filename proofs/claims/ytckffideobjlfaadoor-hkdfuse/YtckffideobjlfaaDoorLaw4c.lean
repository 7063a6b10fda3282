/-
  The walk of a law of layer 4: any use of any master key, of any generation, has the key that the document says, or is refused. No statement of the seed is proved here.
-/
import Derived.Test.YtckffideobjlfaaDoorRk3
namespace Go.Proofs.YtckffideobjlfaaDoor
open Go.RowKit
set_option linter.unusedVariables false

set_option maxRecDepth 100000 in
set_option maxHeartbeats 4000000 in
theorem use_walk (key : List UInt8) (s : ByteArray) (gen : Int) (w : World) (hgl : Glob w) (hkl : key.length = 32) (hs0 : s.size ≤ maxLen) (hnw : (Lit.int .i64 gen).wf = true) :
    Calls Tryd.prog 5 #[.agg (bvs key).toArray, .string s, .int .i64 gen] w fun e w' => e = .returned (.bool true) ∧ Kept [] w w' := by
  obtain ⟨x0, x1⟩ := bounds_i64 hnw
  unfold maxLen at hs0
  have hB := Blk.new w 25 (bvs key)
  have hK1 : Kept [] w (w.alloc (.cells (bvs key).toArray 25)) := (Kept.refl [] w).alloc _
  have Hkl := Lib.hid hkl
  obtain ⟨g3, hg3⟩ : ∃ g, g = w.heap.size := ⟨_, rfl⟩
  rw [← hg3] at hB
  have hw3 : w.heap.size ≤ g3 := by omega
  by_cases h1 : 200 < s.size
  · go_enter Tryd.func5, Tryd.ntmps5
    go_wp2_with (with_reducible change wpList _ _ _ (⟨_, Op.box _ _, _, _, _, _⟩ :: _) _ _; refine Great.wpList_boxTo rfl 25 _ rfl _ rfl g3 hg3.symm (bvs key).toArray rfl ?_; generalize w.alloc (.cells (bvs key).toArray 25) = w1 at *)
    refine (wakes4_any _ (hgl.kept0 hK1)).mono ?_
    rintro e w3 ⟨rfl, hk3⟩
    go_wp2
    go_ret
    exact ⟨rfl, hK1.andThen hk3⟩
  have ht := useK_length key (strL s) gen
  have Ht := Lib.hid ht
  go_enter Tryd.func5, Tryd.ntmps5
  go_wp2_with (with_reducible change wpList _ _ _ (⟨_, Op.box _ _, _, _, _, _⟩ :: _) _ _; refine Great.wpList_boxTo rfl 25 _ rfl _ rfl g3 hg3.symm (bvs key).toArray rfl ?_; generalize w.alloc (.cells (bvs key).toArray 25) = w1 at *)
  refine (wakes4_any _ (hgl.kept0 hK1)).mono ?_
  rintro e w3 ⟨rfl, hk3⟩
  have hB3 := hB.kept0 hk3
  have hK3 := hK1.andThen hk3
  rw [← hg3]
  clear hB hK1 hk3 hkl hg3 ht
  go_wp2_with (with_reducible change wpList _ _ _ (⟨_, Op.load _ _, _, _, _, _⟩ :: _) _ _; refine wpList_load_blk rfl 25 (.tmp 3) rfl g3 rfl 25 _ _ hB3 arr32b rfl (size_of_len size32 Hkl.out) ?_)
  go_wp2_with fail
  refine (use_any key s gen _ (hgl.kept0 hK3) Hkl.out (by omega) x0 x1).mono ?_
  rintro e w4 ⟨rfl, hk4⟩
  have hB4 := hB3.kept0 hk4
  have hK4 := hK3.andThen hk4
  clear hB3 hK3 hk4
  go_wp2_with (with_reducible change wpList _ _ _ (⟨_, Op.alloc _, _, _, _, _⟩ :: _) _ _; refine wpList_alloc_blk rfl 25 rfl _ zero32 ?_)
  intro w5 hR5 hk5 hs5
  obtain ⟨g7, hg7⟩ : ∃ g, g = w4.heap.size := ⟨_, rfl⟩
  rw [← hg7] at hR5 ⊢
  have h37 : g3 ≠ g7 := by have := hB4.lt; omega
  have hw7 : w.heap.size ≤ g7 := by have := hK4.size; omega
  clear hs5 hg7
  go_wp2_with (with_reducible change wpList _ _ _ (⟨_, Op.store _ _ _, _, _, _, _⟩ :: _) _ _; refine wpList_store_blk rfl 25 (.tmp 7) (.tmp 21) rfl g7 (bvs (useK key (strL s) gen)) rfl rfl 25 (zb 32) hR5 (size_of_len size32 Ht.out) (zb_len Ht.out) (bvs_one _) ?_)
  intro w6 hR6 hk6 hs6
  have hB6 := (hB4.kept0 hk5).kept hk6 (by simpa using h37)
  have hK6 : Kept [] w w6 := (hK4.andThen hk5).trans hk6 (by simp; omega)
  clear hB4 hK4 hR5 hk5 hk6 hs6
  go_wp2_with (with_reducible change wpList _ _ _ (⟨_, Op.load _ _, _, _, _, _⟩ :: _) _ _; refine wpList_load_blk rfl 25 (.tmp 3) rfl g3 rfl 25 _ _ hB6 arr32b rfl (size_of_len size32 Hkl.out) ?_)
  go_wp2_with fail
  refine (rUse_any key s gen _ Hkl.out (by omega) x0 x1).mono ?_
  rintro e w7 ⟨rfl, hk7⟩
  have hR7 := hR6.kept0 hk7
  have hK7 := hK6.andThen hk7
  clear hB6 hK6 hR6 hk7
  go_wp2_with (with_reducible change wpList _ _ _ (⟨_, Op.alloc _, _, _, _, _⟩ :: _) _ _; refine wpList_alloc_blk rfl 25 rfl _ zero32 ?_)
  intro w8 hR8 hk8 hs8
  obtain ⟨g9, hg9⟩ : ∃ g, g = w7.heap.size := ⟨_, rfl⟩
  rw [← hg9] at hR8 ⊢
  have h79 : g7 ≠ g9 := by have := hR7.lt; omega
  have hw9 : w.heap.size ≤ g9 := by have := hK7.size; omega
  clear hs8 hg9
  go_wp2_with (with_reducible change wpList _ _ _ (⟨_, Op.store _ _ _, _, _, _, _⟩ :: _) _ _; refine wpList_store_blk rfl 25 (.tmp 9) (.tmp 28) rfl g9 (bvs (useK key (strL s) gen)) rfl rfl 25 (zb 32) hR8 (size_of_len size32 Ht.out) (zb_len Ht.out) (bvs_one _) ?_)
  intro w9 hR9 hk9 hs9
  have hR79 := (hR7.kept0 hk8).kept hk9 (by simpa using h79)
  have hK9 : Kept [] w w9 := (hK7.andThen hk8).trans hk9 (by simp; omega)
  clear hR7 hK7 hR8 hk8 hk9 hs9
  have hg := fun W x y => run_eqGuard_agg (P := Tryd.prog) W .eql 25 x y (bvs (useK key (strL s) gen)).toArray (bvs (useK key (strL s) gen)).toArray (by kernel_rfl)
  have heq := fun W => run_equalIn_key (useK key (strL s) gen) (useK_length _ _ _) W
  generalize useK key (strL s) gen = K at *
  go_wp2_with (first
    | (with_reducible change wpList _ _ _ (⟨_, Op.load _ (Operand.tmp 7), _, _, _, _⟩ :: _) _ _; refine wpList_load_blk rfl 25 (.tmp 7) rfl g7 rfl 25 _ _ hR79 arr32b rfl (size_of_len size32 Ht.out) ?_)
    | (with_reducible change wpList _ _ _ (⟨_, Op.load _ (Operand.tmp 9), _, _, _, _⟩ :: _) _ _; refine wpList_load_blk rfl 25 (.tmp 9) rfl g9 rfl 25 _ _ hR9 arr32b rfl (size_of_len size32 Ht.out) ?_))
  go_ret
  exact ⟨by simp, hK9⟩
end Go.Proofs.YtckffideobjlfaaDoor
