/-
  Walk of the fixed fact that layer 5's laws ask first. No statement of the seed is proved here.
-/
import Derived.Test.YticjdmdbjhbddaaAes6
import Derived.Test.YticjdmdbjhbddaaRa1
import Derived.Test.YticjdmdbjhbddaaHeld
import Derived.Stop.BytesEq
namespace Go.Proofs.Yticjdmdbjhbddaa
open Go.RowKit
set_option linter.unusedVariables false

theorem size_run8 (W : World) : (sizeOf 5).run Try.prog W = .ok 1 W := by
  have h1 := size1u
  cases hq : Try.prog.info? 5 with
  | none => simp [hq] at h1
  | some i =>
    have hi : i.size = 1 := by simpa [hq] using h1
    simp [sizeOf, typeInfo, hq, hi]
theorem run_eq16 (l m : List UInt8) (hl : l.length = 16) (hm : m.length = 16) (W : World) : (Op.equalIn 10000 24 (.agg (bvs l).toArray) (.agg (bvs m).toArray)).run Try.prog W = .ok (l == m) W :=
  run_equalIn_bytes (P := Try.prog) W 9998 24 5 16 arr16b und8 size_run8 l m hl hm
def exA : List UInt8 := [0x8e, 0xa2, 0xb7, 0xca, 0x51, 0x67, 0x45, 0xbf, 0xea, 0xfc, 0x49, 0x90, 0x4b, 0x49, 0x60, 0x89]
@[irreducible] def exK : List UInt8 := tab 32 UInt8.ofNat
@[irreducible] def exX : List UInt8 := tab 16 (fun i => UInt8.ofNat (17 * i))
theorem exK_length : exK.length = 32 := by unfold exK; exact tab_length _ _
theorem exX_length : exX.length = 16 := by unfold exX; exact tab_length _ _
theorem ex_aes : aesBlock (aesWords exK) exX = exA := by unfold exK exX; exact aes_known
theorem exK_at (k : Nat) (h : k < 32) : (bvs exK)[k]? = some (.int .u8 (k : Int)) := by
  rw [bvs_at (by rw [exK_length]; exact h)]
  unfold exK
  rw [tab_get _ h, ofNat_toNat, Nat.mod_eq_of_lt (by omega)]
theorem exX_at (k : Nat) (h : k < 16) : (bvs exX)[k]? = some (.int .u8 (17 * (k : Int))) := by
  rw [bvs_at (by rw [exX_length]; exact h)]
  unfold exX
  rw [tab_get _ h, ofNat_toNat, Nat.mod_eq_of_lt (by omega)]
  rfl
theorem zeroKy : (Try.prog.info? 23).bind (·.zero) = some (.agg (zb 32).toArray) := by kernel_rfl

set_option maxRecDepth 100000 in
set_option maxHeartbeats 1000000 in
theorem wakes5_any (w : World) : Calls Try.prog 6 #[] w fun e w' => e = .returned (.bool true) ∧ Kept [] w w' := by
  have HkL := Lib.hid exK_length
  have HxL := Lib.hid exX_length
  have HkA := Lib.hid exK_at
  have HxA := Lib.hid exX_at
  have Hzk := Lib.hid (zb_len HkL.out)
  have Hzx := Lib.hid (zb_len HxL.out)
  have Hex := Lib.hid ex_aes
  generalize exK = kk at *
  generalize exX = xx at *
  go_enter Try.func6, Try.ntmps6
  go_wp2_with (with_reducible change wpList _ _ _ (⟨_, Op.alloc _, _, _, _, _⟩ :: _) _ _; refine wpList_alloc_blk rfl 23 rfl _ zeroKy ?_)
  intro w1 hA1 hk1 hs1
  go_wp2_with (with_reducible change wpList _ _ _ (⟨_, Op.alloc _, _, _, _, _⟩ :: _) _ _; refine wpList_alloc_blk rfl 24 rfl _ zero16 ?_)
  intro w2 hB2 hk2 hs2
  have hA2 := hA1.kept0 hk2
  have hK2 := hk1.andThen hk2
  obtain ⟨b, hb⟩ : ∃ b, b = w.heap.size + 1 := ⟨_, rfl⟩
  obtain ⟨a, ha⟩ : ∃ a, a = w.heap.size := ⟨_, rfl⟩
  rw [← hb] at hB2 ⊢
  rw [← ha] at hA2 ⊢
  have n1 : a ≠ b := by omega
  have l1 : w.heap.size ≤ a := by omega
  have l2 : w.heap.size ≤ b := by omega
  clear hA1 hk1 hk2 hs1 hs2 ha hb
  go_wp2
  go_loopw [5] (fun i wr => ∃ k : Nat, k ≤ 32 ∧ i = .int .i64 (k : Int) ∧ Blk wr a 23 (ovr (bvs kk) (zb 32) k) ∧ Blk wr b 24 (zb 16) ∧ Kept [] w wr) (fun i _ => 32 - (intOf i).toNat)
  case atStart => exact ⟨0, by omega, rfl, by rw [ovr_zero]; exact hA2, hB2, hK2⟩
  case round =>
    clear hA2 hB2 hK2
    obtain ⟨k, hk, rfl, hA, hB, hK⟩ := hrel
    have hLen : (bvs kk).length = (zb 32).length := Hzk.out.symm
    by_cases hlt : k < 32
    · have hol := ovr_length (n := k) hLen
      rw [zb_length] at hol
      have cc := hA.cellD k (by omega)
      generalize (ovr (bvs kk) (zb 32) k)[k]'(by omega) = u at cc
      have f1 := hA.frz k
      have hset := ovr_set (n := k) hLen (by rw [zb_length]; exact hlt) (HkA.out k hlt)
      have hnew := hA.set k (.int .u8 (k : Int))
      rw [hset] at hnew
      have hBn := hB.set_other (b := a) k (.int .u8 (k : Int)) n1.symm
      have hKn : Kept [] w (wr.setCell ⟨a, k, none⟩ (.int .u8 (k : Int))) := hK.setCell (by right; exact l1) _
      clear hLen hol hset hA hB hK
      go_wp2
      go_roundw
      case rel => exact ⟨k + 1, by omega, by go_num, hnew, hBn, hKn⟩
      case measure => simp [intOf]; omega
    · obtain rfl : k = 32 := by omega
      rw [ovr_all hLen (by rw [zb_length]; omega)] at hA
      clear hLen
      go_wp2
      go_loopw [13] (fun i wr => ∃ k : Nat, k ≤ 16 ∧ i = .int .i64 (k : Int) ∧ Blk wr a 23 (bvs kk) ∧ Blk wr b 24 (ovr (bvs xx) (zb 16) k) ∧ Kept [] w wr) (fun i _ => 16 - (intOf i).toNat)
      case atStart => exact ⟨0, by omega, rfl, hA, by rw [ovr_zero]; exact hB, hK⟩
      case round =>
        clear hA hB hK
        obtain ⟨k, hk, rfl, hA, hB, hK⟩ := hrel
        have hLen : (bvs xx).length = (zb 16).length := Hzx.out.symm
        by_cases hlt : k < 16
        · have hol := ovr_length (n := k) hLen
          rw [zb_length] at hol
          have cc := hB.cellD k (by omega)
          generalize (ovr (bvs xx) (zb 16) k)[k]'(by omega) = u at cc
          have f1 := hB.frz k
          have hset := ovr_set (n := k) hLen (by rw [zb_length]; exact hlt) (HxA.out k hlt)
          have hnew := hB.set k (.int .u8 (17 * (k : Int)))
          rw [hset] at hnew
          have hAn := hA.set_other (b := b) k (.int .u8 (17 * (k : Int))) n1
          have hKn : Kept [] w (wr.setCell ⟨b, k, none⟩ (.int .u8 (17 * (k : Int)))) := hK.setCell (by right; exact l2) _
          clear hLen hol hset hA hB hK
          go_wp2
          go_roundw
          case rel => exact ⟨k + 1, by omega, by go_num, hAn, hnew, hKn⟩
          case measure => simp [intOf]; omega
        · obtain rfl : k = 16 := by omega
          rw [ovr_all hLen (by rw [zb_length]; omega)] at hB
          clear hLen
          have SK := Lib.hid (fun W (h : Kept [] wr W) => And.intro (hA.kept0 h).rangeOf (hB.kept0 h).rangeOf)
          have hu1 := arrKey
          have hu2 := arr16b
          have hsz1 := size_of_len (P := Try.prog) (ty := 23) sizeKey HkL.out
          have hsz2 := size_of_len (P := Try.prog) (ty := 24) size16 HxL.out
          have heq : ∀ W, (Op.equalIn 10000 24 (.agg (bvs exA).toArray) (.agg (bvs exA).toArray)).run Try.prog W = .ok true W := fun W => by
            have h := run_eq16 exA exA rfl rfl W
            rwa [beq_self_eq_true] at h
          go_wp2
          have hHeld := SK.out _ (Kept.refl [] wr).drew
          refine wp_region_begin (fun w' => w'.rangeAt a 0 (bvs kk) ∧ w'.rangeAt b 0 (bvs xx)) (by kernel_rfl) ?_
          refine held_load 0 rfl (by kernel_rfl) (by kernel_rfl) (by kernel_rfl) rfl 23 (.tmp 1) rfl a 0 rfl (bvs kk) _ (fun w h => h.1) arrKey rfl hsz1 hHeld ?_
          refine held_load 2 rfl (by kernel_rfl) (by kernel_rfl) (by kernel_rfl) rfl 24 (.tmp 2) rfl b 0 rfl (bvs xx) _ (fun w h => h.2) arr16b rfl hsz2 hHeld ?_
          refine held_pure 4 (.agg (bvs exA).toArray) rfl (by kernel_rfl) (by kernel_rfl) (by kernel_rfl) rfl (fun w _ => by kernel_rfl) hHeld ?_
          simp only [Act.put, List.setIfInBounds_toArray]
          refine held_one 1 (by kernel_rfl) rfl ?_
          go_wp2_with fail
          refine (new_any kk _ HkL.out).mono ?_
          rintro e w6 ⟨p6, rfl, hb6, hp6, hk6⟩
          have hK6 := (Kept.refl [] wr).drew.andThen hk6
          go_wp2
          change _ ∧ wpAnyH _ _ _ _ _ _ _ _ _
          refine ⟨SK.out _ hK6, ?_⟩
          refine held_one 3 (by kernel_rfl) rfl ?_
          go_wp2_with fail
          refine (block5_any p6 (aesWords kk) xx _ hb6 HxL.out).mono ?_
          rw [Hex.out]
          rintro e w7 ⟨rfl, hk7⟩
          have hK7 := hK6.andThen hk7
          clear hb6 hk6 hk7 hHeld
          go_wp2
          change _ ∧ wpAnyH _ _ _ _ _ _ _ _ _
          refine ⟨SK.out _ hK7, ?_⟩
          refine held_one 5 (by kernel_rfl) rfl ?_
          go_wp2
          change _ ∧ wpAnyH _ _ _ _ _ _ _ _ _
          refine ⟨SK.out _ hK7, ?_⟩
          refine held_one 6 (by kernel_rfl) rfl ?_
          go_wp2
          change _ ∧ wpAnyH _ _ _ _ _ _ _ _ _
          refine ⟨SK.out _ hK7, ?_⟩
          refine held_done (by kernel_rfl) ?_
          go_wp2
          go_ret
          exact ⟨rfl, hK.andThen hK7⟩
end Go.Proofs.Yticjdmdbjhbddaa
