/-
  Contract of layer 12, the document's own: a name out of a draw. No statement of the seed is proved here.
-/
import Derived.Test.YtmhigipljplgdaaDoorRh0
import Derived.Test.YtmhigipljplgdaaDoorRf6
import Derived.Test.YtmhigipljplgdaaDoorPc
namespace Go.Proofs.YtmhigipljplgdaaDoor
open Go.RowKit
set_option linter.unusedVariables false

theorem zeroId : (Tryd.prog.info? 40).bind (·.zero) = some (.agg (zb 16).toArray) := by kernel_rfl
theorem sizeId : (Tryd.prog.info? 40).map (·.size) = some 16 := by kernel_rfl
theorem zb16_size : (Tryd.prog.info? 40).map (·.size) = some (zb 16).length := by kernel_rfl
theorem zb16_one : ∀ v ∈ zb 16, v.oneCell' = true := bvs_one _
theorem builtId : Tryd.prog.built 40 [] = some (zb 16).toArray := by kernel_rfl
/-- The name of a draw. -/
@[irreducible] def idL (k : List UInt8) : List UInt8 := (shaSum k).take 16
theorem idL_length (k : List UInt8) : (idL k).length = 16 := by unfold idL; rw [List.length_take, shaSum_length]; rfl

set_option maxRecDepth 100000 in
set_option maxHeartbeats 2000000 in
theorem rId_any (k : List UInt8) (w : World) (hkl : k.length = 32) : Calls Tryd.prog 12 #[.agg (bvs k).toArray] w fun e w' => e = .returned (.agg (bvs (idL k)).toArray) ∧ Kept [] w w' := by
  obtain ⟨D, hD⟩ : ∃ D, shaSum k = D := ⟨_, rfl⟩
  have HDl : Hid (D.length = 32) := Lib.hid (by rw [← hD]; exact shaSum_length _)
  obtain ⟨X, hX⟩ : ∃ X, idL k = X := ⟨_, rfl⟩
  have HXl : Hid (X.length = 16) := Lib.hid (by rw [← hX]; exact idL_length k)
  have HXD : Hid (∀ i : Nat, i < 16 → X[i]? = D[i]?) := Lib.hid (fun i hi => by
    rw [← hX]
    unfold idL
    rw [List.getElem?_take, if_pos hi, hD])
  rw [hX]
  have HD := Lib.hid hD
  have Hkl := Lib.hid hkl
  have Hsk := Lib.hid (size_of_len (P := Tryd.prog) (ty := 32) size32 hkl)
  have Hsd := Lib.hid (size_of_len (P := Tryd.prog) (ty := 32) size32 HDl.out)
  have Hod := Lib.hid (bvs_one D)
  have Hzd : Hid ((zb 32).length = (bvs D).length) := Lib.hid (by rw [zb_length, bvs_length, HDl.out])
  have Hsx : Hid ((Tryd.prog.info? 40).map (·.size) = some (bvs X).length) := Lib.hid (by rw [bvs_length, HXl.out]; exact sizeId)
  have Hox := Lib.hid (bvs_one X)
  have HXz : Hid ((bvs X).length = (zb 16).length) := Lib.hid (by rw [zb_length, bvs_length, HXl.out])
  have hA0 := Blk.new w 32 (bvs k)
  have kA : Kept [] w (w.alloc (.cells (bvs k).toArray 32)) := (Kept.refl [] w).alloc _
  obtain ⟨w1, hw1⟩ : ∃ w1, w1 = w.alloc (.cells (bvs k).toArray 32) := ⟨_, rfl⟩
  rw [← hw1] at hA0 kA
  obtain ⟨a, ha⟩ : ∃ a, a = w.heap.size := ⟨_, rfl⟩
  rw [← ha] at hA0
  have W1 := Lib.hid hw1
  have A0 := Lib.hid ha
  have HA := Lib.hid hA0
  have HK1 := Lib.hid kA
  have HB0 := Lib.hid builtId
  clear hD hX hA0 kA hw1 ha hkl
  go_enter Tryd.func12, Tryd.ntmps12
  go_wp2_with (first
    | (with_reducible change wpList _ _ _ (⟨_, Op.box _ _, _, _, _, _⟩ :: _) _ _; refine Great.wpList_boxTo rfl 32 _ rfl _ rfl a A0.out.symm (bvs k).toArray rfl ?_; rw [← W1.out])
    | (with_reducible change wpList _ _ _ (⟨_, Op.alloc _, _, _, _, _⟩ :: _) _ _; refine wpList_alloc_blk rfl 40 rfl _ zeroId ?_))
  intro w2 hR2 hk2 hs2
  obtain ⟨r, hr⟩ : ∃ r, r = w1.heap.size := ⟨_, rfl⟩
  rw [← hr] at hR2 hs2 ⊢
  have lr : w.heap.size ≤ r := by have := HK1.out.size; omega
  have HA2 := Lib.hid (HA.out.kept0 hk2)
  have HK2 := Lib.hid (HK1.out.andThen hk2)
  have HR2 := Lib.hid hR2
  clear hr hR2 hk2 hs2 A0 W1 HA HK1
  go_wp2_with (with_reducible change wpList _ _ _ (⟨_, Op.load _ _, _, _, _, _⟩ :: _) _ _; refine wpList_load_blk rfl 32 (.tmp 1) rfl a rfl 32 _ _ HA2.out arr32b rfl Hsk.out ?_)
  refine (rBytes_any k _ Hkl.out).mono ?_
  rintro e w3 ⟨v3, rfl, ho3, hk3, _⟩
  obtain ⟨A3, n3, c3, rfl, hr3, _⟩ := ho3.form
  obtain rfl : n3 = 32 := by rw [← hr3.len]; exact Hkl.out
  have HR3 := Lib.hid (HR2.out.kept0 hk3)
  have HK3 := Lib.hid (HK2.out.andThen hk3)
  have Hr3 := Lib.hid hr3
  have d1 := hr3.cap
  have d2 := hr3.most
  unfold maxLen at d2
  clear ho3 hk3 hr3 HA2 HR2 HK2
  go_wp2_with fail
  refine (rSum_any A3 32 c3 k _ Hr3.out (by omega)).mono ?_
  rw [HD.out]
  rintro e w4 ⟨rfl, hk4⟩
  have HR4 := Lib.hid (HR3.out.kept0 hk4)
  have HK4 := Lib.hid (HK3.out.andThen hk4)
  clear hk4 HR3 HK3 Hr3
  go_wp2_with (with_reducible change wpList _ _ _ (⟨_, Op.alloc _, _, _, _, _⟩ :: _) _ _; refine wpList_alloc_blk rfl 32 rfl _ zero32 ?_)
  intro w5 hH5 hk5 hs5
  obtain ⟨h, hh⟩ : ∃ h, h = w4.heap.size := ⟨_, rfl⟩
  rw [← hh] at hH5 hs5 ⊢
  have lh4 : w4.heap.size ≤ h := by omega
  have lh : w.heap.size ≤ h := by have := HK4.out.size; omega
  have hrh : r ≠ h := by have := HR4.out.lt; omega
  clear hh hs5
  go_wp2_with (with_reducible change wpList _ _ _ (⟨_, Op.store _ _ _, _, _, _, _⟩ :: _) _ _; refine wpList_store_blk rfl 32 (.tmp 3) (.tmp 8) rfl h (bvs D) rfl rfl 32 (zb 32) hH5 Hsd.out Hzd.out Hod.out ?_)
  intro w6 hH6 hk6 hs6
  have HK46 : Hid (Kept [] w4 w6) := Lib.hid (hk5.trans hk6 (fun i hi => .inr (by have := List.mem_singleton.1 hi; omega)))
  have HK6 := Lib.hid (HK4.out.andThen HK46.out)
  have HR6 := Lib.hid (HR4.out.kept0 HK46.out)
  have HH6 := Lib.hid hH6
  clear hH5 hk5 hk6 hs6 hH6 HK4 HR4 HK46 lh4
  go_wp2_with (first
    | (with_reducible change wpList _ _ _ (⟨_, Op.build _ _, _, _, _, _⟩ :: _) _ _; refine wpList_buildTo rfl 40 _ rfl _ rfl (zb 16).toArray (by simpa [Act.eval, Act.put] using HB0.out) ?_)
    | (with_reducible change wpList _ _ _ (⟨_, Op.alloc _, _, _, _, _⟩ :: _) _ _; refine wpList_alloc_blk rfl 40 rfl _ zeroId ?_))
  intro w7 hI7 hk7 hs7
  obtain ⟨d, hd⟩ : ∃ d, d = w6.heap.size := ⟨_, rfl⟩
  rw [← hd] at hI7 hs7 ⊢
  have ld6 : w6.heap.size ≤ d := by omega
  have ld : w.heap.size ≤ d := by have := HK6.out.size; omega
  have hrd : r ≠ d := by have := HR6.out.lt; omega
  have hhd : h ≠ d := by have := HH6.out.lt; omega
  clear hd hs7
  go_wp2_with (with_reducible change wpList _ _ _ (⟨_, Op.store _ _ _, _, _, _, _⟩ :: _) _ _; refine wpList_store_blk rfl 40 (.tmp 4) (.tmp 9) rfl d (zb 16) rfl rfl 40 (zb 16) hI7 zb16_size rfl zb16_one ?_)
  intro w8 hI8 hk8 hs8
  have HK68 : Hid (Kept [] w6 w8) := Lib.hid (hk7.trans hk8 (fun i hi => .inr (by have := List.mem_singleton.1 hi; omega)))
  have HK8 := Lib.hid (HK6.out.andThen HK68.out)
  have HR8 := Lib.hid (HR6.out.kept0 HK68.out)
  have HH8 := Lib.hid (HH6.out.kept0 HK68.out)
  have HI8 := Lib.hid hI8
  clear hI7 hk7 hk8 hs8 hI8 HK6 HR6 HH6 HK68 ld6
  go_wp2
  go_loopw [5] (fun i wr => ∃ q : Nat, q ≤ 16 ∧ i = .int .i64 (q : Int) ∧ Blk wr d 40 (ovr (bvs X) (zb 16) q) ∧ Blk wr h 32 (bvs D) ∧ Blk wr r 40 (zb 16) ∧ Kept [] w wr) (fun i _ => 16 - (intOf i).toNat)
  case atStart => exact ⟨0, by omega, rfl, by rw [ovr_zero]; exact HI8.out, HH8.out, HR8.out, HK8.out⟩
  case round =>
    obtain ⟨q, hq, rfl, hI, hH, hR, hK⟩ := hrel
    by_cases hlt : q < 16
    · obtain ⟨x, hx⟩ : ∃ x, D[q]? = some x := ⟨D[q]'(by have := HDl.out; omega), List.getElem?_eq_getElem _⟩
      have gX := (HXD.out q hlt).trans hx
      have c1 : wr.cell? ⟨h, q, none⟩ = some (.int .u8 (x.toNat : Int)) := by
        rw [hH.cell, bvs, List.getElem?_map, hx]
        rfl
      have hol := ovr_length (n := q) HXz.out
      rw [zb_length] at hol
      have cc := hI.cellD q (by omega)
      generalize (ovr (bvs X) (zb 16) q)[q]'(by omega) = u at cc
      have f1 := hI.frz q
      have hset := ovr_set (n := q) HXz.out (by rw [zb_length]; exact hlt) (v := .int .u8 (x.toNat : Int)) (by rw [bvs, List.getElem?_map, gX]; rfl)
      have hnew := hI.set q (.int .u8 (x.toNat : Int))
      rw [hset] at hnew
      have hHn := hH.set_other (b := d) q (.int .u8 (x.toNat : Int)) hhd
      have hRn := hR.set_other (b := d) q (.int .u8 (x.toNat : Int)) hrd
      have hKn : Kept [] w (wr.setCell ⟨d, q, none⟩ (.int .u8 (x.toNat : Int))) := hK.setCell (by right; exact ld) _
      have zk : (q : Int) < 16 := by omega
      have zk2 : (q : Int) < 32 := by omega
      clear hx gX hol hset hI hH hR hK
      go_wp2
      go_roundw
      case rel => exact ⟨q + 1, by omega, by go_num, hnew, hHn, hRn, hKn⟩
      case measure => simp [intOf]; omega
    · have hI' : Blk wr d 40 (bvs X) := by
        have h1 := ovr_all (n := q) HXz.out (by rw [zb_length]; omega)
        rw [h1] at hI
        exact hI
      have HKK := Lib.hid hK
      clear hI hH hK
      go_wp2_with (first
        | (with_reducible change wpList _ _ _ (⟨_, Op.load _ _, _, _, _, _⟩ :: _) _ _; refine wpList_load_blk rfl 40 (.tmp 4) rfl d rfl 40 (bvs X) _ hI' Tryd.underlying40 rfl Hsx.out ?_)
        | (with_reducible change wpList _ _ _ (⟨_, Op.store _ _ _, _, _, _, _⟩ :: _) _ _; refine wpList_store_blk rfl 40 (.tmp 2) (.tmp 19) rfl r (bvs X) rfl rfl 40 (zb 16) hR Hsx.out HXz.out.symm Hox.out ?_))
      intro w20 hR20 hk20 hs20
      go_wp2
      refine bodyPost_ret (results_blk rfl _ r 40 _ _ rfl hR20 Tryd.underlying40 rfl Hsx.out) rfl ?_
      exact ⟨rfl, HKK.out.trans hk20 (fun i hi => .inr (by have := List.mem_singleton.1 hi; omega))⟩
end Go.Proofs.YtmhigipljplgdaaDoor
