/-
  Walk of the fixed fact that layer 6's laws ask first. No statement of the seed is proved here.
-/
import Derived.Test.YtblcamkdkjobbaaCtr3
import Derived.Test.YtblcamkdkjobbaaEq16
namespace Go.Proofs.Ytblcamkdkjobbaa
open Go.RowKit
set_option linter.unusedVariables false

theorem wpList_eql16 {w : World} {ops : Array Oper} {rest : List Oper} {o : Oper} {a : Act} {Q : Exit → Act → World → Prop} (hgd : o.guard = none) (x y : Operand) (u : TypeId) (ho : o.op = .binOp .eql 24 x y u)
    (l m : List UInt8) (hl : l.length = 16) (hm : m.length = 16) (hx : a.eval x = .agg (bvs l).toArray) (hy : a.eval y = .agg (bvs m).toArray)
    (h : wpList Try.prog ops Q rest (a.put o.dst (.bool (l == m))) w) : wpList Try.prog ops Q (o :: rest) a w := by
  refine wpList_plain hgd fun K hK => ?_
  have he := run_eql16 o a.eval x y u ho l m hl hm hx hy w
  unfold Oper.wp
  rw [he]
  exact hK _ _ h
theorem built16' : Try.prog.built 24 [] = some (zb 16).toArray := by kernel_rfl
theorem builtKey6 : Try.prog.built 23 [] = some (zb 32).toArray := by kernel_rfl
@[irreducible] def ff16 : List UInt8 := List.replicate 16 255
theorem ff16_length : ff16.length = 16 := by unfold ff16; rfl
theorem ff16_at (k : Nat) (h : k < 16) : (bvs ff16)[k]? = some (.int .u8 255) := by
  rw [bvs_at (by rw [ff16_length]; exact h)]
  unfold ff16
  rw [List.getD_eq_getElem?_getD, List.getElem?_replicate, if_pos h]; rfl
theorem ff16_cnt : cnt ff16 1 = List.replicate 16 0 := by rw [cnt_eq]; unfold ff16; decide +kernel

set_option maxRecDepth 100000 in
set_option maxHeartbeats 1000000 in
theorem wakes6_any (w : World) : Calls Try.prog 7 #[] w fun e w' => e = .returned (.bool true) ∧ Kept [] w w' := by
  have HxL := Lib.hid ff16_length
  have HxA := Lib.hid ff16_at
  have Hzx := Lib.hid (zb_len HxL.out)
  have Hex := Lib.hid ff16_cnt
  have Hsx := Lib.hid (size_of_len (P := Try.prog) (ty := 24) size16 HxL.out)
  generalize ff16 = xx at *
  go_enter Try.func7, Try.ntmps7
  go_wp2_with (with_reducible change wpList _ _ _ (⟨_, Op.alloc _, _, _, _, _⟩ :: _) _ _; refine wpList_alloc_blk rfl 24 rfl _ zero16 ?_)
  intro w1 hA1 hk1 hs1
  obtain ⟨a, ha⟩ : ∃ a, a = w.heap.size := ⟨_, rfl⟩
  rw [← ha] at hA1 ⊢
  have l1 : w.heap.size ≤ a := by omega
  clear hs1 ha
  go_wp2
  go_loopw [3] (fun i wr => ∃ k : Nat, k ≤ 16 ∧ i = .int .i64 (k : Int) ∧ Blk wr a 24 (ovr (bvs xx) (zb 16) k) ∧ Kept [] w wr) (fun i _ => 16 - (intOf i).toNat)
  case atStart => exact ⟨0, by omega, rfl, by rw [ovr_zero]; exact hA1, hk1⟩
  case round =>
    clear hA1 hk1
    obtain ⟨k, hk, rfl, hA, hK⟩ := hrel
    have hLen : (bvs xx).length = (zb 16).length := Hzx.out.symm
    by_cases hlt : k < 16
    · have hol := ovr_length (n := k) hLen
      rw [zb_length] at hol
      have cc := hA.cellD k (by omega)
      generalize (ovr (bvs xx) (zb 16) k)[k]'(by omega) = u at cc
      have f1 := hA.frz k
      have hset := ovr_set (n := k) hLen (by rw [zb_length]; exact hlt) (HxA.out k hlt)
      have hnew := hA.set k (.int .u8 255)
      rw [hset] at hnew
      have hKn : Kept [] w (wr.setCell ⟨a, k, none⟩ (.int .u8 255)) := hK.setCell (by right; exact l1) _
      clear hLen hol hset hA hK
      go_wp2
      go_roundw
      case rel => exact ⟨k + 1, by omega, by go_num, hnew, hKn⟩
      case measure => simp [intOf]; omega
    · obtain rfl : k = 16 := by omega
      rw [ovr_all hLen (by rw [zb_length]; omega)] at hA
      clear hLen
      go_wp2_with (with_reducible change wpList _ _ _ (⟨_, Op.load _ _, _, _, _, _⟩ :: _) _ _; refine wpList_load_blk rfl 24 (.tmp 1) rfl a rfl 24 _ _ hA arr16b rfl Hsx.out ?_)
      refine (count_any xx 1 _ _ HxL.out (by omega) rfl).mono ?_
      rw [Hex.out]
      rintro e w2 ⟨rfl, hk2⟩
      have hA2 := hA.kept0 hk2
      have hK2 := hK.andThen hk2
      clear hA hK hk2
      have HB := Lib.hid built16'
      have HBk := Lib.hid builtKey6
      have hown : RdB (w2.alloc (.cells #[.int .u8 1, .int .u8 2, .int .u8 3] 5)) (some ⟨w2.heap.size, 0, none⟩) 3 3 [1, 2, 3] := RdB.lit w2 5 _ 3 [1, 2, 3] rfl rfl (by simp [maxLen])
      have hK3 : Kept [] w (w2.alloc (.cells #[.int .u8 1, .int .u8 2, .int .u8 3] 5)) := hK2.alloc _
      have HR := Lib.hid hown
      have HK3 := Lib.hid hK3
      clear hown hK3
      go_wp2_with (first
        | (with_reducible change wpList _ _ _ (⟨_, Op.build 24 _, _, _, _, _⟩ :: _) _ _; refine wpList_buildTo rfl 24 _ rfl _ rfl (zb 16).toArray (by simpa [Act.eval, Act.put] using HB.out) ?_)
        | (with_reducible change wpList _ _ _ (⟨_, Op.binOp BinOp.eql 24 _ _ _, _, _, _, _⟩ :: _) _ _; refine wpList_eql16 rfl _ _ _ rfl (List.replicate 16 0) (List.replicate 16 0) rfl rfl rfl rfl ?_; rw [beq_self_eq_true])
        | (with_reducible change wpList _ _ _ (⟨_, Op.build 23 _, _, _, _, _⟩ :: _) _ _; refine wpList_unguard (by simp [Region.wanted, yielded]) ?_; refine wpList_buildTo rfl 23 _ rfl _ rfl (zb 32).toArray (by simpa [Act.eval, Act.put] using HBk.out) ?_)
        | (with_reducible change wpList _ _ _ (⟨_, Op.load _ _, _, _, _, _⟩ :: _) _ _; refine wpList_unguard (by simp [Region.wanted, yielded, Act.put]) ?_; refine wpList_load_blk rfl 24 (.tmp 1) rfl a rfl 24 _ _ hA2 arr16b rfl Hsx.out ?_))
      refine (hide_any (List.replicate 32 0) xx _ 3 3 [1, 2, 3] _ List.length_replicate HxL.out HR.out (by omega)).mono ?_
      rintro e w4 ⟨g, rfl, _, _, hk4⟩
      have hK4 := HK3.out.andThen hk4
      go_wp2
      go_ret
      exact ⟨rfl, hK4⟩
end Go.Proofs.Ytblcamkdkjobbaa
