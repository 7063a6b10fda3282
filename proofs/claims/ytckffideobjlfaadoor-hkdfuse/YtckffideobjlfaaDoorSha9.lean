/-
  Contracts of Sum and Sums, layer 2 (sha). No statement of the seed is proved here.
-/
import Derived.Test.YtckffideobjlfaaDoorSha8
namespace Go.Proofs.YtckffideobjlfaaDoor
open Go.RowKit
set_option linter.unusedVariables false

theorem RdL.one {w : World} {A : Option Addr} {n c : Nat} {bs : List UInt8} (e : TypeId) (h : RdB w A n c bs) : RdL (w.alloc (.cells #[.slice A n c] e)) (some ⟨w.heap.size, 0, none⟩) 1 1 [bs] := by
  refine ⟨rfl, Nat.le_refl _, by simp [maxLen], fun _ => ⟨w.heap.size, 0, rfl, by simp, fun j hj => ?_⟩⟩
  have hj0 : j = 0 := by simpa using hj
  subst hj0
  refine ⟨A, n, c, ?_, h.alloc _⟩
  rw [cell_of_row _ _ _ _ _ _ (heap_alloc_new w _)]
  rfl

theorem key_size (l : List UInt8) : (Tryd.prog.info? 25).map (·.size) = some (bvs (shaSum l)).length := by rw [bvs_length, shaSum_length]; exact size32
theorem key_zb (l : List UInt8) : (zb 32).length = (bvs (shaSum l)).length := by rw [bvs_length, shaSum_length]; simp [zb, bvs]

theorem sums_any (A : Option Addr) (n c : Nat) (ls : List (List UInt8)) (w : World) (hr : RdL w A n c ls) (hgl : Glob w) (hL : ls.flatten.length < 1099511600000) :
    Calls Tryd.prog 34 #[.slice A n c] w (KeyRet (shaSum ls.flatten) w) := by
  go_enter Tryd.func34, Tryd.ntmps34
  go_wp2_with (with_reducible change wpList _ _ _ (⟨_, Op.alloc _, _, _, _, _⟩ :: _) _ _; refine wpList_alloc_blk rfl 25 rfl _ zero32 ?_)
  intro w1 hR1 hk1 hs1
  go_wp2_with fail
  refine (digest_any A n c ls _ (hr.kept0 hk1) (hgl.kept0 hk1) hL).mono ?_
  rintro e w2 ⟨rfl, hk2⟩
  have hR2 := hR1.kept0 hk2
  go_wp2_with (with_reducible change wpList _ _ _ (⟨_, Op.store _ _ _, _, _, _, _⟩ :: _) _ _; refine wpList_store_blk rfl 25 (.tmp 2) (.tmp 4) rfl w.heap.size (bvs (shaSum ls.flatten)) rfl rfl 25 (zb 32) hR2 (key_size _) (key_zb _) (bvs_one _) ?_)
  intro w6 hR6 hk6 hs6
  go_wp2
  refine bodyPost_ret (results_blk rfl _ w.heap.size 25 _ _ rfl hR6 Tryd.underlying25 rfl (key_size _)) rfl ?_
  exact ⟨rfl, (hk1.andThen hk2).trans hk6 (by simp)⟩

theorem sum_any (A : Option Addr) (n c : Nat) (bs : List UInt8) (w : World) (hr : RdB w A n c bs) (hgl : Glob w) (hL : n < 1099511600000) :
    Calls Tryd.prog 40 #[.slice A n c] w (KeyRet (shaSum bs) w) := by
  have hl := hr.len
  have hfl : [bs].flatten = bs := by simp
  go_enter Tryd.func40, Tryd.ntmps40
  go_wp2_with (with_reducible change wpList _ _ _ (⟨_, Op.alloc _, _, _, _, _⟩ :: _) _ _; refine wpList_alloc_blk rfl 25 rfl _ zero32 ?_)
  intro w1 hR1 hk1 hs1
  have hr1 := RdL.one 22 (hr.kept0 hk1)
  go_wp2_with fail
  have ha : Kept [] w1 (w1.alloc (.cells #[.slice A n c] 22)) := (Kept.refl [] w1).alloc _
  refine (digest_any _ 1 1 [bs] _ (by rw [← hs1]; exact hr1) ((hgl.kept0 hk1).kept0 ha) (by rw [hfl]; omega)).mono ?_
  rw [hfl]
  rintro e w2 ⟨rfl, hk2⟩
  have hR2 := (hR1.kept0 ha).kept0 hk2
  go_wp2_with (with_reducible change wpList _ _ _ (⟨_, Op.store _ _ _, _, _, _, _⟩ :: _) _ _; refine wpList_store_blk rfl 25 (.tmp 2) (.tmp 5) rfl w.heap.size (bvs (shaSum bs)) rfl rfl 25 (zb 32) hR2 (key_size _) (key_zb _) (bvs_one _) ?_)
  intro w6 hR6 hk6 hs6
  go_wp2
  refine bodyPost_ret (results_blk rfl _ w.heap.size 25 _ _ rfl hR6 Tryd.underlying25 rfl (key_size _)) rfl ?_
  exact ⟨rfl, ((hk1.andThen ha).andThen hk2).trans hk6 (by simp)⟩
end Go.Proofs.YtckffideobjlfaaDoor
