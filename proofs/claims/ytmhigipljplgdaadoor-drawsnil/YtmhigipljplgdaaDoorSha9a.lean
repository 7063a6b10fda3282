/-
  Contract of Sum, layer 2 (sha). No statement of the seed is proved here.
-/
import Derived.Test.YtmhigipljplgdaaDoorSha8
namespace Go.Proofs.YtmhigipljplgdaaDoor
open Go.RowKit
set_option linter.unusedVariables false

theorem key_size (l : List UInt8) : (Tryd.prog.info? 32).map (·.size) = some (bvs (shaSum l)).length := by rw [bvs_length, shaSum_length]; exact size32
theorem key_zb (l : List UInt8) : (zb 32).length = (bvs (shaSum l)).length := by rw [bvs_length, shaSum_length]; simp [zb, bvs]

theorem sum_any (A : Option Addr) (n c : Nat) (bs : List UInt8) (w : World) (hr : RdB w A n c bs) (hgl : Glob w) (hL : n < 1099511600000) :
    Calls Tryd.prog 17 #[.slice A n c] w (KeyRet (shaSum bs) w) := by
  have hl := hr.len
  have hfl : [bs].flatten = bs := by simp
  go_enter Tryd.func17, Tryd.ntmps17
  go_wp2_with (with_reducible change wpList _ _ _ (⟨_, Op.alloc _, _, _, _, _⟩ :: _) _ _; refine wpList_alloc_blk rfl 32 rfl _ zero32 ?_)
  intro w1 hR1 hk1 hs1
  have hr1 := RdL.one 53 (hr.kept0 hk1)
  go_wp2_with fail
  have ha : Kept [] w1 (w1.alloc (.cells #[.slice A n c] 53)) := (Kept.refl [] w1).alloc _
  refine (digest_any _ 1 1 [bs] _ (by rw [← hs1]; exact hr1) ((hgl.kept0 hk1).kept0 ha) (by rw [hfl]; omega)).mono ?_
  rw [hfl]
  rintro e w2 ⟨rfl, hk2⟩
  have hR2 := (hR1.kept0 ha).kept0 hk2
  go_wp2_with (with_reducible change wpList _ _ _ (⟨_, Op.store _ _ _, _, _, _, _⟩ :: _) _ _; refine wpList_store_blk rfl 32 (.tmp 2) (.tmp 5) rfl w.heap.size (bvs (shaSum bs)) rfl rfl 32 (zb 32) hR2 (key_size _) (key_zb _) (bvs_one _) ?_)
  intro w6 hR6 hk6 hs6
  go_wp2
  refine bodyPost_ret (results_blk rfl _ w.heap.size 32 _ _ rfl hR6 Tryd.underlying32 rfl (key_size _)) rfl ?_
  exact ⟨rfl, ((hk1.andThen ha).andThen hk2).trans hk6 (by simp)⟩
end Go.Proofs.YtmhigipljplgdaaDoor
