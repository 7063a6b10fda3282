/-
  Contract of layer 11 (aont): a secret, packed in slices. No statement of the seed is proved here.
-/
import Derived.Test.YtmjeojbdieaakaaDoorAp3
import Derived.Test.YtmjeojbdieaakaaDoorAp4
import Derived.Test.YtmjeojbdieaakaaDoorAp5
import Derived.Test.YtmjeojbdieaakaaDoorAo4
import Derived.Test.YtmjeojbdieaakaaDoorPb
namespace Go.Proofs.YtmjeojbdieaakaaDoor
open Go.RowKit
set_option linter.unusedVariables false

/-- Texts of the call's own, each in a row of its own, and an error. -/
def PackOwn (ls : List (List UInt8)) (x : Int) (w : World) (e : Ending) (w' : World) : Prop := ∃ A n c, e = .returned (.tuple #[.slice A n c, .int .i64 x]) ∧ OwL w.heap.size w' A n c ls ∧ Kept [] w w'
theorem OwL.nil (N : Nat) (w : World) : OwL N w none 0 0 [] := ⟨[], OwV.nil _ _, TxtW.nil _ _ _⟩
theorem OwL.mono {M N : Nat} {w : World} {A : Option Addr} {n c : Nat} {ls : List (List UInt8)} (h : OwL N w A n c ls) (hM : M ≤ N) : OwL M w A n c ls := by
  obtain ⟨vs, ho, h0, g, cp, h1, h2⟩ := h
  exact ⟨vs, ho, h0, g, cp, fun i l hl => by obtain ⟨a1, a2, a3, a4⟩ := h1 i l hl; exact ⟨a1, a2, by omega, a4⟩, h2⟩
theorem pack_splice {H X : List UInt8} {J T : Nat} (hH : H.length = J) (hX : X.length = 32) (hT : J + 32 ≤ T) :
    splice (splice (List.replicate T (0 : UInt8)) 0 H) J X = H ++ X ++ List.replicate (T - (J + 32)) 0 := by
  unfold splice
  rw [hH, hX, List.take_zero, List.nil_append, List.drop_replicate]
  rw [List.take_append_of_le_length (by omega), List.take_of_length_le (by omega), List.drop_append, List.drop_of_length_le (by omega), List.nil_append, hH, List.drop_replicate]
  rw [List.append_assoc, show T - (0 + J) - (J + 32 - J) = T - (J + 32) by omega]
theorem sizN_pos {c k : Nat} (h : 1 ≤ k) : 1 ≤ sizN c k := by
  have := (sizN_mul (c := c) h).1
  rcases Nat.eq_zero_or_pos (sizN c k) with h0 | h0
  · rw [h0, Nat.mul_zero] at this
    omega
  · exact h0

set_option maxRecDepth 100000 in
set_option maxHeartbeats 4000000 in
theorem aPack_any (key : List UInt8) (A : Option Addr) (n c : Nat) (k : Int) (bs : List UInt8) (w : World) (hkl : key.length = 32) (hr : RdB w A n c bs) (hgl : Glob w) :
    Calls Tryd.prog 8 #[.int .i64 k, .slice A n c, .agg (bvs key).toArray] w (PackOwn (packL k key bs) (packE k n) w) := by
  obtain ⟨i0, hi0, hz0, hz1, hz2⟩ := info_parts u8info
  have hlb := hr.len
  have HR := Lib.hid hr
  have Hkl := Lib.hid hkl
  have b1 := hr.cap
  have b2 := hr.most
  unfold maxLen at b2
  have Hsk := Lib.hid (size_of_len (P := Tryd.prog) (ty := 24) size32 hkl)
  have hA0 := Blk.new w 24 (bvs key)
  have kA : Kept [] w (w.alloc (.cells (bvs key).toArray 24)) := (Kept.refl [] w).alloc _
  have sA : (w.alloc (.cells (bvs key).toArray 24)).heap.size = w.heap.size + 1 := by simp
  obtain ⟨w1, hw1⟩ : ∃ w1, w1 = w.alloc (.cells (bvs key).toArray 24) := ⟨_, rfl⟩
  rw [← hw1] at hA0 kA sA
  obtain ⟨a, ha⟩ : ∃ a, a = w.heap.size := ⟨_, rfl⟩
  rw [← ha] at hA0
  have W1 := Lib.hid hw1
  have A0 := Lib.hid ha
  have HA := Lib.hid hA0
  have HK1 := Lib.hid kA
  have HGL := Lib.hid (hgl.kept0 kA)
  clear hA0 kA sA hw1 ha hkl hr hgl
  by_cases hbig : 1000 < n
  · have HE : Hid (packE k n = 3) := Lib.hid (by unfold packE; rw [if_pos hbig])
    have HL : Hid (packL k key bs = []) := Lib.hid (by unfold packL; rw [if_neg (by omega)])
    have HCv : Hid (clsV (n : Int) = .tuple #[.int .i64 0, .int .i64 3]) := Lib.hid (clsV_no (.inr (by omega)))
    rw [HE.out, HL.out]
    go_enter Tryd.func8, Tryd.ntmps8
    go_wp2_with (first
      | (with_reducible change wpList _ _ _ (⟨_, Op.box _ _, _, _, _, _⟩ :: _) _ _; refine Great.wpList_boxTo rfl 24 _ rfl _ rfl a A0.out.symm (bvs key).toArray rfl ?_; rw [← W1.out])
      | (go_at_call 12; refine (aCls_any _ _).mono ?_; rw [HCv.out]; rintro e w' ⟨rfl, rfl⟩))
    go_ret2
    exact ⟨none, 0, 0, rfl, OwL.nil _ _, HK1.out⟩
  · obtain ⟨C, hC⟩ : ∃ C, clsN n = C := ⟨_, rfl⟩
    have HCv : Hid (clsV (n : Int) = .tuple #[.int .i64 (C : Int), .int .i64 0]) := Lib.hid (by rw [clsV_yes (by omega) (by omega), Int.toNat_natCast, hC])
    have HCi : Hid (isCls (C : Int) = true) := Lib.hid (by rw [← hC]; exact clsN_isCls n)
    by_cases hk : k < 1 ∨ 255 < k
    · have HE : Hid (packE k n = 14) := Lib.hid (by unfold packE; rw [if_neg hbig, if_pos hk])
      have HL : Hid (packL k key bs = []) := Lib.hid (by unfold packL; rw [if_neg (by omega)])
      have HSv : Hid (sizV (C : Int) k = .tuple #[.int .i64 0, .int .i64 14]) := Lib.hid (sizV_no (by omega))
      rw [HE.out, HL.out]
      clear hk hC
      go_enter Tryd.func8, Tryd.ntmps8
      go_wp2_with (first
        | (with_reducible change wpList _ _ _ (⟨_, Op.box _ _, _, _, _, _⟩ :: _) _ _; refine Great.wpList_boxTo rfl 24 _ rfl _ rfl a A0.out.symm (bvs key).toArray rfl ?_; rw [← W1.out])
        | (go_at_call 12; refine (aCls_any _ _).mono ?_; rw [HCv.out]; rintro e w' ⟨rfl, rfl⟩)
        | (go_at_call 21; refine (aSiz_any (C : Int) k _).mono ?_; rw [HSv.out]; rintro e w' ⟨rfl, rfl⟩))
      go_ret2
      exact ⟨none, 0, 0, rfl, OwL.nil _ _, HK1.out⟩
    · obtain ⟨q, rfl⟩ : ∃ q : Nat, k = (q : Int) := ⟨k.toNat, by omega⟩
      have hq1 : 1 ≤ q := by omega
      have hq2 : q ≤ 255 := by omega
      have hn2 : n ≤ 1000 := by omega
      have hns : bs.length ≤ 1000 := by omega
      have HHl : Hid ((hidL key bs).length = C + 16) := Lib.hid (by rw [hidL_length hns, hlb, hC])
      have HPk : Hid (pkgL q key bs = hidL key bs ++ xorL (shaSum (hidL key bs)) key ++ List.replicate (q * sizN C q - (C + 48)) 0) := Lib.hid (by unfold pkgL; rw [hlb, hC])
      have HHd : Hid (hide (aesWords key) (List.replicate 16 0) (insL bs) = hidL key bs) := Lib.hid (by unfold hidL nil16; rfl)
      have HIn := Lib.hid (fun w hr => aIns_any A n c bs w hr hn2)
      obtain ⟨S, hS⟩ : ∃ S, sizN C q = S := ⟨_, rfl⟩
      have hC2 : C ≤ 1024 := by rw [← hC]; exact clsN_le n
      have hS1 : 1 ≤ S := by rw [← hS]; exact sizN_pos hq1
      have hmul := sizN_mul (c := C) hq1
      rw [hS] at hmul
      obtain ⟨T, hT⟩ : ∃ T, q * S = T := ⟨_, rfl⟩
      have hS2 : S ≤ 2000 := by
        have h2 : S ≤ q * S := Nat.le_mul_of_pos_left S (by omega)
        omega
      have HE : Hid (packE (q : Int) n = 0) := Lib.hid (by unfold packE; rw [if_neg hbig, if_neg hk])
      have HL : Hid (packL (q : Int) key bs = cutL q S (pkgL q key bs)) := Lib.hid (by unfold packL; rw [if_pos (by omega), Int.toNat_natCast, hlb, hC, hS])
      have HSv : Hid (sizV (C : Int) (q : Int) = .tuple #[.int .i64 (S : Int), .int .i64 0]) := Lib.hid (by rw [sizV_yes HCi.out (by omega) (by omega), Int.toNat_natCast, Int.toNat_natCast, hS])
      rw [hS, hT] at HPk
      rw [hT] at hmul
      rw [hC] at HIn
      obtain ⟨J, hJ⟩ : ∃ J, J = C + 16 := ⟨_, rfl⟩
      rw [← hJ] at HIn HHl
      have HIl : Hid ((insL bs).length = J) := Lib.hid (by rw [insL_length hns, hlb, hC, hJ])
      have Hmul : Hid ((q : Int) * (S : Int) = (T : Int)) := Lib.hid (by rw [← hT]; exact (Int.natCast_mul q S).symm)
      have HT : Hid (T = q * S) := Lib.hid hT.symm
      obtain ⟨T1, T2⟩ := hmul
      have j1 : J + 32 ≤ T := by omega
      have j2 : 1 ≤ J := by omega
      have j3 : J ≤ 1040 := by omega
      have HJ := Lib.hid hJ
      have SK := Lib.hid (fun W (h : Kept [] w1 W) => (HA.out.kept0 h).rangeOf)
      have hu := arr32b
      have hsz := Hsk.out
      rw [HE.out, HL.out]
      clear hk hC hS hT hJ
      go_enter Tryd.func8, Tryd.ntmps8
      go_wp2_with (first
        | (with_reducible change wpList _ _ _ (⟨_, Op.box _ _, _, _, _, _⟩ :: _) _ _; refine Great.wpList_boxTo rfl 24 _ rfl _ rfl a A0.out.symm (bvs key).toArray rfl ?_; rw [← W1.out])
        | (go_at_call 12; refine (aCls_any _ _).mono ?_; rw [HCv.out]; rintro e w' ⟨rfl, rfl⟩)
        | (go_at_call 21; refine (aSiz_any (C : Int) (q : Int) _).mono ?_; rw [HSv.out]; rintro e w' ⟨rfl, rfl⟩))
      clear A0 W1
      go_region_held3 (fun w' => w'.rangeAt a 0 (bvs key))
        (first
          | exact SK.out _ (Kept.refl [] w1).drew
          | exact SK.out _ hK5
          | exact SK.out _ hK6)
        (first
          | (go_at_call 25; refine (HIn.out _ ((HR.out.kept0 HK1.out).drew)).mono ?_; rintro e w5 ⟨g5, rfl, hB5, hg5, hk5⟩; have hK5 := (Kept.refl [] w1).drew.andThen hk5; have hr5 := hB5.rdb 0 J J (insL bs) (by rw [List.drop_zero]; exact List.take_of_length_le (by rw [bvs_length, HIl.out]; omega)) HIl.out (Nat.le_refl _) (by simp only [maxLen]; omega))
          | (go_at_call 24; refine (hide_any key (List.replicate 16 0) (some ⟨g5, 0, none⟩) J J (insL bs) _ Hkl.out (by simp) hr5 (by omega)).mono ?_; rw [HHd.out]; rintro e w6 ⟨g6, rfl, hB6, hg6, hk6⟩; have hK6 : Kept [] w1 w6 := hK5.andThen hk6))
      -- WAYS
      obtain ⟨Hd, hHd⟩ : ∃ Hd, hidL key bs = Hd := ⟨_, rfl⟩
      rw [hHd] at HHl HPk hB6
      have HrH : Hid (RdB w6 (some ⟨g6, 0, none⟩) J J Hd) := Lib.hid (hB6.rdb 0 J J Hd (by rw [List.drop_zero]; exact List.take_of_length_le (by rw [bvs_length, HHl.out]; omega)) HHl.out (Nat.le_refl _) (by simp only [maxLen]; omega))
      obtain ⟨D, hD⟩ : ∃ D, shaSum Hd = D := ⟨_, rfl⟩
      have HDl : Hid (D.length = 32) := Lib.hid (by rw [← hD]; exact shaSum_length _)
      obtain ⟨X, hX⟩ : ∃ X, xorL D key = X := ⟨_, rfl⟩
      have HXl : Hid (X.length = 32) := Lib.hid (by rw [← hX]; unfold xorL; rw [List.length_zipWith, HDl.out, Hkl.out]; rfl)
      rw [hD, hX] at HPk
      have HD := Lib.hid hD
      have HX := Lib.hid hX
      have Hsx := Lib.hid (size_of_len (P := Tryd.prog) (ty := 24) size32 HXl.out)
      have Hox := Lib.hid (bvs_one X)
      have Hzx : Hid ((zb 32).length = (bvs X).length) := Lib.hid (by rw [zb_length, bvs_length, HXl.out])
      have HSp : Hid (splice (splice (List.replicate T (0 : UInt8)) 0 Hd) J X = pkgL q key bs) := Lib.hid (by rw [HPk.out, pack_splice HHl.out HXl.out j1, show T - (J + 32) = T - (C + 48) by have := HJ.out; omega])
      have HPl : Hid ((pkgL q key bs).length = T) := Lib.hid (by rw [HPk.out, List.length_append, List.length_append, List.length_replicate, HHl.out, HXl.out]; have := HJ.out; omega)
      have SK6 := Lib.hid (fun W (h : Kept [] w6 W) => SK.out W (hK6.andThen h))
      have HG6 := Lib.hid (HGL.out.kept0 hK6)
      have HK16 := Lib.hid (HK1.out.andThen hK6)
      clear hB5 hg5 hk5 hK5 hr5 hB6 hg6 hk6 hK6 hHd hD hX hu hsz SK HIn HHd HR HA HK1 HGL
      go_wp2
      have hHeld := SK6.out _ (Kept.refl [] w6).drew
      refine wp_region_begin (fun w' => w'.rangeAt a 0 (bvs key)) (by kernel_rfl) ?_
      refine held_loadD 0 38 rfl rfl (by kernel_rfl) (by kernel_rfl) (by kernel_rfl) rfl 24 (.tmp 5) rfl a 0 rfl (bvs key) _ (fun w h => h) arr32b rfl Hsk.out hHeld ?_
      simp only [Act.put, List.setIfInBounds_toArray, List.set_cons_succ, List.set_cons_zero]
      refine held_pureD 1 39 (.slice (some ⟨g6, 0, none⟩) J J) rfl rfl (by kernel_rfl) (by kernel_rfl) (by kernel_rfl) rfl (fun w _ => rfl) hHeld ?_
      simp only [Act.put, List.setIfInBounds_toArray, List.set_cons_succ, List.set_cons_zero]
      refine held_two 2 4 (by kernel_rfl) rfl rfl ?_ ?_
      · skip
        go_wp2_with fail
        refine (sum_any (some ⟨g6, 0, none⟩) J J Hd _ (HrH.out.kept0 (Kept.refl [] w6).drew) (HG6.out.kept0 (Kept.refl [] w6).drew) (by omega)).mono ?_
        rw [HD.out]
        rintro e wS ⟨rfl, hkS⟩
        have hKS := (Kept.refl [] w6).drew.andThen hkS
        clear hkS
        go_wp2
        change _ ∧ wpAnyH _ _ _ _ _ _ _ _ _
        refine ⟨SK6.out _ hKS, ?_⟩
        refine held_two 3 4 (by kernel_rfl) rfl rfl ?_ ?_
        · skip
          go_wp2_with fail
          refine (aMix_any key D _ Hkl.out HDl.out).mono ?_
          rw [HX.out]
          rintro e wM ⟨rfl, hkM⟩
          have hKM := hKS.andThen hkM
          clear hkM
          go_wp2
          change _ ∧ wpAnyH _ _ _ _ _ _ _ _ _
          refine ⟨SK6.out _ hKM, ?_⟩
          refine held_one 4 (by kernel_rfl) rfl ?_
          refine wpList_alloc_blk rfl 24 rfl _ zero32 ?_
          intro wa hAa hka hsa
          have hKa := hKM.andThen hka
          have hga := hKM.size
          clear hka hsa
          go_wp2
          change _ ∧ wpAnyH _ _ _ _ _ _ _ _ _
          refine ⟨SK6.out _ hKa, ?_⟩
          refine held_one 5 (by kernel_rfl) rfl ?_
          refine wpList_store_blk rfl 24 (.tmp 12) (.tmp 41) rfl wM.heap.size (bvs X) rfl rfl 24 (zb 32) hAa Hsx.out Hzx.out Hox.out ?_
          intro wz hBz hkz hsz2
          have hKz : Kept [] w6 wz := hKa.trans hkz (fun i hi => .inr (by have := List.mem_singleton.1 hi; omega))
          clear hkz hsz2
          obtain ⟨gz, hgz⟩ : ∃ gz, gz = wM.heap.size := ⟨_, rfl⟩
          rw [← hgz] at hBz ⊢
          have lz : w6.heap.size ≤ gz := by omega
          clear hAa hgz hga
          clear hKS
          clear hKM
          clear hKa
          go_wp2
          change _ ∧ wpAnyH _ _ _ _ _ _ _ _ _
          refine ⟨SK6.out _ hKz, ?_⟩
          refine held_done (by kernel_rfl) ?_
          have hrX : RdB wz (some ⟨gz, 0, none⟩) 32 32 X := hBz.rdb 0 32 32 X (by rw [List.drop_zero]; exact List.take_of_length_le (by rw [bvs_length, HXl.out]; omega)) HXl.out (Nat.le_refl _) (by simp [maxLen])
          have HrX := Lib.hid hrX
          have HKz := Lib.hid hKz
          have hmu := Hmul.out
          clear hBz hKz hrX hHeld
          go_wp2_with (with_reducible change wpList _ _ _ (⟨_, Op.makeSlice _ _ _, _, _, _, _⟩ :: _) _ _; refine wpList_make_bytes rfl _ _ 22 rfl 5 i0 Tryd.underlying22 hi0 hz0 hz1 hz2 _ _ _ _ T rfl rfl rfl rfl (by omega) ?_)
          intro w9 hown9 hk9
          have hG9 := hown9.blk
          obtain ⟨g9, hg9⟩ : ∃ g9, g9 = wz.heap.size := ⟨_, rfl⟩
          rw [← hg9] at hG9 ⊢
          have l9 : w6.heap.size ≤ g9 := by have := HKz.out.size; omega
          have n9 : gz ≠ g9 := by obtain ⟨b, o, y, e, cb, _, _⟩ := HrX.out.byte (k := 0) (by omega); injection e with e; injection e with e; subst e; have h1 : gz < wz.heap.size := World.block_lt_of_cell? wz _ cb; omega
          have HG9 := Lib.hid hG9
          have HK9 := Lib.hid (HKz.out.andThen hk9)
          have HrX9 := Lib.hid (HrX.out.kept0 hk9)
          clear hown9 hG9 hk9 hg9 HrX HKz
          go_wp2_with (with_reducible change wpList _ _ _ (⟨_, Op.call _, _, _, _, _⟩ :: _) _ _; refine wpList_copy_blk rfl (.tmp 46) (.tmp 47) 22 rfl 5 Tryd.underlying22 size1b g9 0 T T (some ⟨g6, 0, none⟩) J J Hd rfl rfl (HrH.out.kept0 HK9.out) (by omega) 5 _ HG9.out J (by omega) (by rw [bvs_length, List.length_replicate]; omega) ?_)
          intro w10 hG10 hk10
          rw [List.take_of_length_le (by rw [HHl.out]; omega), splice_bvs] at hG10
          have HG10 := Lib.hid hG10
          have HK10 : Hid (Kept [] w6 w10) := Lib.hid (HK9.out.trans hk10 (fun i hi => .inr (by have := List.mem_singleton.1 hi; omega)))
          have HrX10 := Lib.hid (HrX9.out.kept hk10 (fun b hb hin => n9 (by injection hb with hb; subst hb; exact List.mem_singleton.1 hin)))
          have e1 := fun W => run_cut_last (P := Tryd.prog) 22 5 Tryd.underlying22 size1b g9 T J (J : Int) rfl (by omega) W
          have e2 := run_cut_all (P := Tryd.prog) 24 5 32 gz 0 arr32b size1b (by omega)
          have jT : (J : Int) ≤ (T : Int) := by omega
          clear hG10 hk10 HG9 HK9 HrX9
          go_wp2
          go_still_tail 5, (by kernel_rfl)
          change wpList _ _ _ _ _ w10.drew
          refine wpList_copy_blk rfl (.tmp 52) (.tmp 53) 22 rfl 5 Tryd.underlying22 size1b g9 J (T - J) (T - J) (some ⟨gz, 0, none⟩) 32 32 X rfl rfl HrX10.out.drew (by omega) 5 _ HG10.out.drew 32 (by omega) (by rw [bvs_length, length_splice _ _ _ (by rw [HHl.out, List.length_replicate]; omega), List.length_replicate]; omega) ?_
          intro w11 hG11 hk11
          rw [List.take_of_length_le (by rw [HXl.out]; omega), splice_bvs, HSp.out] at hG11
          have HK11 : Hid (Kept [] w6 w11) := Lib.hid (HK10.out.drew.trans hk11 (fun i hi => .inr (by have := List.mem_singleton.1 hi; omega)))
          have Hr11 : Hid (RdB w11 (some ⟨g9, 0, none⟩) T T (pkgL q key bs)) := Lib.hid (hG11.rdb 0 T T _ (by rw [List.drop_zero]; exact List.take_of_length_le (by rw [bvs_length, HPl.out]; omega)) HPl.out (Nat.le_refl _) (by simp only [maxLen]; omega))
          clear hG11 hk11 HG10 HK10 HrX10 e1 e2
          go_wp2_with fail
          refine (aCut_any (some ⟨g9, 0, none⟩) T T (pkgL q key bs) q S _ Hr11.out hq1 hq2 hS1 hS2 HT.out).mono ?_
          rintro e w12 ⟨A12, n12, c12, rfl, hO12, hk12⟩
          have HO12 := Lib.hid (hO12.mono (HK16.out.andThen HK11.out).size)
          have HK12 := Lib.hid ((HK16.out.andThen HK11.out).andThen hk12)
          clear hO12 hk12
          go_wp2
          go_ret2
          exact ⟨A12, n12, c12, rfl, HO12.out, HK12.out⟩
        · skip
          refine wpList_alloc_blk rfl 24 rfl _ zero32 ?_
          intro wa hAa hka hsa
          have hKa := hKS.andThen hka
          have hga := hKS.size
          clear hka hsa
          go_wp2
          change _ ∧ wpAnyH _ _ _ _ _ _ _ _ _
          refine ⟨SK6.out _ hKa, ?_⟩
          refine held_one 3 (by kernel_rfl) rfl ?_
          go_wp2_with fail
          refine (aMix_any key D _ Hkl.out HDl.out).mono ?_
          rw [HX.out]
          rintro e wM ⟨rfl, hkM⟩
          have hKM := hKa.andThen hkM
          replace hAa := hAa.kept0 hkM
          clear hkM
          go_wp2
          change _ ∧ wpAnyH _ _ _ _ _ _ _ _ _
          refine ⟨SK6.out _ hKM, ?_⟩
          refine held_one 5 (by kernel_rfl) rfl ?_
          refine wpList_store_blk rfl 24 (.tmp 12) (.tmp 41) rfl wS.heap.size (bvs X) rfl rfl 24 (zb 32) hAa Hsx.out Hzx.out Hox.out ?_
          intro wz hBz hkz hsz2
          have hKz : Kept [] w6 wz := hKM.trans hkz (fun i hi => .inr (by have := List.mem_singleton.1 hi; omega))
          clear hkz hsz2
          obtain ⟨gz, hgz⟩ : ∃ gz, gz = wS.heap.size := ⟨_, rfl⟩
          rw [← hgz] at hBz ⊢
          have lz : w6.heap.size ≤ gz := by omega
          clear hAa hgz hga
          clear hKS
          clear hKM
          clear hKa
          go_wp2
          change _ ∧ wpAnyH _ _ _ _ _ _ _ _ _
          refine ⟨SK6.out _ hKz, ?_⟩
          refine held_done (by kernel_rfl) ?_
          have hrX : RdB wz (some ⟨gz, 0, none⟩) 32 32 X := hBz.rdb 0 32 32 X (by rw [List.drop_zero]; exact List.take_of_length_le (by rw [bvs_length, HXl.out]; omega)) HXl.out (Nat.le_refl _) (by simp [maxLen])
          have HrX := Lib.hid hrX
          have HKz := Lib.hid hKz
          have hmu := Hmul.out
          clear hBz hKz hrX hHeld
          go_wp2_with (with_reducible change wpList _ _ _ (⟨_, Op.makeSlice _ _ _, _, _, _, _⟩ :: _) _ _; refine wpList_make_bytes rfl _ _ 22 rfl 5 i0 Tryd.underlying22 hi0 hz0 hz1 hz2 _ _ _ _ T rfl rfl rfl rfl (by omega) ?_)
          intro w9 hown9 hk9
          have hG9 := hown9.blk
          obtain ⟨g9, hg9⟩ : ∃ g9, g9 = wz.heap.size := ⟨_, rfl⟩
          rw [← hg9] at hG9 ⊢
          have l9 : w6.heap.size ≤ g9 := by have := HKz.out.size; omega
          have n9 : gz ≠ g9 := by obtain ⟨b, o, y, e, cb, _, _⟩ := HrX.out.byte (k := 0) (by omega); injection e with e; injection e with e; subst e; have h1 : gz < wz.heap.size := World.block_lt_of_cell? wz _ cb; omega
          have HG9 := Lib.hid hG9
          have HK9 := Lib.hid (HKz.out.andThen hk9)
          have HrX9 := Lib.hid (HrX.out.kept0 hk9)
          clear hown9 hG9 hk9 hg9 HrX HKz
          go_wp2_with (with_reducible change wpList _ _ _ (⟨_, Op.call _, _, _, _, _⟩ :: _) _ _; refine wpList_copy_blk rfl (.tmp 46) (.tmp 47) 22 rfl 5 Tryd.underlying22 size1b g9 0 T T (some ⟨g6, 0, none⟩) J J Hd rfl rfl (HrH.out.kept0 HK9.out) (by omega) 5 _ HG9.out J (by omega) (by rw [bvs_length, List.length_replicate]; omega) ?_)
          intro w10 hG10 hk10
          rw [List.take_of_length_le (by rw [HHl.out]; omega), splice_bvs] at hG10
          have HG10 := Lib.hid hG10
          have HK10 : Hid (Kept [] w6 w10) := Lib.hid (HK9.out.trans hk10 (fun i hi => .inr (by have := List.mem_singleton.1 hi; omega)))
          have HrX10 := Lib.hid (HrX9.out.kept hk10 (fun b hb hin => n9 (by injection hb with hb; subst hb; exact List.mem_singleton.1 hin)))
          have e1 := fun W => run_cut_last (P := Tryd.prog) 22 5 Tryd.underlying22 size1b g9 T J (J : Int) rfl (by omega) W
          have e2 := run_cut_all (P := Tryd.prog) 24 5 32 gz 0 arr32b size1b (by omega)
          have jT : (J : Int) ≤ (T : Int) := by omega
          clear hG10 hk10 HG9 HK9 HrX9
          go_wp2
          go_still_tail 5, (by kernel_rfl)
          change wpList _ _ _ _ _ w10.drew
          refine wpList_copy_blk rfl (.tmp 52) (.tmp 53) 22 rfl 5 Tryd.underlying22 size1b g9 J (T - J) (T - J) (some ⟨gz, 0, none⟩) 32 32 X rfl rfl HrX10.out.drew (by omega) 5 _ HG10.out.drew 32 (by omega) (by rw [bvs_length, length_splice _ _ _ (by rw [HHl.out, List.length_replicate]; omega), List.length_replicate]; omega) ?_
          intro w11 hG11 hk11
          rw [List.take_of_length_le (by rw [HXl.out]; omega), splice_bvs, HSp.out] at hG11
          have HK11 : Hid (Kept [] w6 w11) := Lib.hid (HK10.out.drew.trans hk11 (fun i hi => .inr (by have := List.mem_singleton.1 hi; omega)))
          have Hr11 : Hid (RdB w11 (some ⟨g9, 0, none⟩) T T (pkgL q key bs)) := Lib.hid (hG11.rdb 0 T T _ (by rw [List.drop_zero]; exact List.take_of_length_le (by rw [bvs_length, HPl.out]; omega)) HPl.out (Nat.le_refl _) (by simp only [maxLen]; omega))
          clear hG11 hk11 HG10 HK10 HrX10 e1 e2
          go_wp2_with fail
          refine (aCut_any (some ⟨g9, 0, none⟩) T T (pkgL q key bs) q S _ Hr11.out hq1 hq2 hS1 hS2 HT.out).mono ?_
          rintro e w12 ⟨A12, n12, c12, rfl, hO12, hk12⟩
          have HO12 := Lib.hid (hO12.mono (HK16.out.andThen HK11.out).size)
          have HK12 := Lib.hid ((HK16.out.andThen HK11.out).andThen hk12)
          clear hO12 hk12
          go_wp2
          go_ret2
          exact ⟨A12, n12, c12, rfl, HO12.out, HK12.out⟩
      · skip
        refine wpList_alloc_blk rfl 24 rfl _ zero32 ?_
        intro wa hAa hka hsa
        have hKa := (Kept.refl [] w6).drew.andThen hka
        have hga := (Kept.refl [] w6).drew.size
        clear hka hsa
        go_wp2
        change _ ∧ wpAnyH _ _ _ _ _ _ _ _ _
        refine ⟨SK6.out _ hKa, ?_⟩
        refine held_one 2 (by kernel_rfl) rfl ?_
        go_wp2_with fail
        refine (sum_any (some ⟨g6, 0, none⟩) J J Hd _ (HrH.out.kept0 hKa) (HG6.out.kept0 hKa) (by omega)).mono ?_
        rw [HD.out]
        rintro e wS ⟨rfl, hkS⟩
        have hKS := hKa.andThen hkS
        replace hAa := hAa.kept0 hkS
        clear hkS
        go_wp2
        change _ ∧ wpAnyH _ _ _ _ _ _ _ _ _
        refine ⟨SK6.out _ hKS, ?_⟩
        refine held_one 3 (by kernel_rfl) rfl ?_
        go_wp2_with fail
        refine (aMix_any key D _ Hkl.out HDl.out).mono ?_
        rw [HX.out]
        rintro e wM ⟨rfl, hkM⟩
        have hKM := hKS.andThen hkM
        replace hAa := hAa.kept0 hkM
        clear hkM
        go_wp2
        change _ ∧ wpAnyH _ _ _ _ _ _ _ _ _
        refine ⟨SK6.out _ hKM, ?_⟩
        refine held_one 5 (by kernel_rfl) rfl ?_
        refine wpList_store_blk rfl 24 (.tmp 12) (.tmp 41) rfl w6.heap.size (bvs X) rfl rfl 24 (zb 32) hAa Hsx.out Hzx.out Hox.out ?_
        intro wz hBz hkz hsz2
        have hKz : Kept [] w6 wz := hKM.trans hkz (fun i hi => .inr (by have := List.mem_singleton.1 hi; omega))
        clear hkz hsz2
        obtain ⟨gz, hgz⟩ : ∃ gz, gz = w6.heap.size := ⟨_, rfl⟩
        rw [← hgz] at hBz ⊢
        have lz : w6.heap.size ≤ gz := by omega
        clear hAa hgz hga
        clear hKS
        clear hKM
        clear hKa
        go_wp2
        change _ ∧ wpAnyH _ _ _ _ _ _ _ _ _
        refine ⟨SK6.out _ hKz, ?_⟩
        refine held_done (by kernel_rfl) ?_
        have hrX : RdB wz (some ⟨gz, 0, none⟩) 32 32 X := hBz.rdb 0 32 32 X (by rw [List.drop_zero]; exact List.take_of_length_le (by rw [bvs_length, HXl.out]; omega)) HXl.out (Nat.le_refl _) (by simp [maxLen])
        have HrX := Lib.hid hrX
        have HKz := Lib.hid hKz
        have hmu := Hmul.out
        clear hBz hKz hrX hHeld
        go_wp2_with (with_reducible change wpList _ _ _ (⟨_, Op.makeSlice _ _ _, _, _, _, _⟩ :: _) _ _; refine wpList_make_bytes rfl _ _ 22 rfl 5 i0 Tryd.underlying22 hi0 hz0 hz1 hz2 _ _ _ _ T rfl rfl rfl rfl (by omega) ?_)
        intro w9 hown9 hk9
        have hG9 := hown9.blk
        obtain ⟨g9, hg9⟩ : ∃ g9, g9 = wz.heap.size := ⟨_, rfl⟩
        rw [← hg9] at hG9 ⊢
        have l9 : w6.heap.size ≤ g9 := by have := HKz.out.size; omega
        have n9 : gz ≠ g9 := by obtain ⟨b, o, y, e, cb, _, _⟩ := HrX.out.byte (k := 0) (by omega); injection e with e; injection e with e; subst e; have h1 : gz < wz.heap.size := World.block_lt_of_cell? wz _ cb; omega
        have HG9 := Lib.hid hG9
        have HK9 := Lib.hid (HKz.out.andThen hk9)
        have HrX9 := Lib.hid (HrX.out.kept0 hk9)
        clear hown9 hG9 hk9 hg9 HrX HKz
        go_wp2_with (with_reducible change wpList _ _ _ (⟨_, Op.call _, _, _, _, _⟩ :: _) _ _; refine wpList_copy_blk rfl (.tmp 46) (.tmp 47) 22 rfl 5 Tryd.underlying22 size1b g9 0 T T (some ⟨g6, 0, none⟩) J J Hd rfl rfl (HrH.out.kept0 HK9.out) (by omega) 5 _ HG9.out J (by omega) (by rw [bvs_length, List.length_replicate]; omega) ?_)
        intro w10 hG10 hk10
        rw [List.take_of_length_le (by rw [HHl.out]; omega), splice_bvs] at hG10
        have HG10 := Lib.hid hG10
        have HK10 : Hid (Kept [] w6 w10) := Lib.hid (HK9.out.trans hk10 (fun i hi => .inr (by have := List.mem_singleton.1 hi; omega)))
        have HrX10 := Lib.hid (HrX9.out.kept hk10 (fun b hb hin => n9 (by injection hb with hb; subst hb; exact List.mem_singleton.1 hin)))
        have e1 := fun W => run_cut_last (P := Tryd.prog) 22 5 Tryd.underlying22 size1b g9 T J (J : Int) rfl (by omega) W
        have e2 := run_cut_all (P := Tryd.prog) 24 5 32 gz 0 arr32b size1b (by omega)
        have jT : (J : Int) ≤ (T : Int) := by omega
        clear hG10 hk10 HG9 HK9 HrX9
        go_wp2
        go_still_tail 5, (by kernel_rfl)
        change wpList _ _ _ _ _ w10.drew
        refine wpList_copy_blk rfl (.tmp 52) (.tmp 53) 22 rfl 5 Tryd.underlying22 size1b g9 J (T - J) (T - J) (some ⟨gz, 0, none⟩) 32 32 X rfl rfl HrX10.out.drew (by omega) 5 _ HG10.out.drew 32 (by omega) (by rw [bvs_length, length_splice _ _ _ (by rw [HHl.out, List.length_replicate]; omega), List.length_replicate]; omega) ?_
        intro w11 hG11 hk11
        rw [List.take_of_length_le (by rw [HXl.out]; omega), splice_bvs, HSp.out] at hG11
        have HK11 : Hid (Kept [] w6 w11) := Lib.hid (HK10.out.drew.trans hk11 (fun i hi => .inr (by have := List.mem_singleton.1 hi; omega)))
        have Hr11 : Hid (RdB w11 (some ⟨g9, 0, none⟩) T T (pkgL q key bs)) := Lib.hid (hG11.rdb 0 T T _ (by rw [List.drop_zero]; exact List.take_of_length_le (by rw [bvs_length, HPl.out]; omega)) HPl.out (Nat.le_refl _) (by simp only [maxLen]; omega))
        clear hG11 hk11 HG10 HK10 HrX10 e1 e2
        go_wp2_with fail
        refine (aCut_any (some ⟨g9, 0, none⟩) T T (pkgL q key bs) q S _ Hr11.out hq1 hq2 hS1 hS2 HT.out).mono ?_
        rintro e w12 ⟨A12, n12, c12, rfl, hO12, hk12⟩
        have HO12 := Lib.hid (hO12.mono (HK16.out.andThen HK11.out).size)
        have HK12 := Lib.hid ((HK16.out.andThen HK11.out).andThen hk12)
        clear hO12 hk12
        go_wp2
        go_ret2
        exact ⟨A12, n12, c12, rfl, HO12.out, HK12.out⟩
end Go.Proofs.YtmjeojbdieaakaaDoor
