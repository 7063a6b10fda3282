/-
  The walk of a law of layer 11: any slices tell the key, and the secret, that the document says, or are refused; they stay as they were. No statement of the seed is proved here.
-/
import Derived.Test.YtmjeojbdieaakaaDoorLaw11a
import Derived.Test.YtmjeojbdieaakaaDoorAp10
import Derived.Test.YtmjeojbdieaakaaDoorEq32
import Derived.Test.YtmjeojbdieaakaaDoorPb
namespace Go.Proofs.YtmjeojbdieaakaaDoor
open Go.RowKit
set_option linter.unusedVariables false

theorem aKeyV_length (cl : Int) (ls : List (List UInt8)) : (aKeyV cl ls).length = 32 := by
  unfold aKeyV
  by_cases h : joinE cl ls = 0
  · obtain ⟨C, rfl, _, _, _, _, _, h6, _⟩ := join_facts h
    rw [if_pos h, Int.toNat_natCast]
    exact keyL_length h6
  · rw [if_neg h, List.length_replicate]

set_option maxRecDepth 100000 in
set_option maxHeartbeats 4000000 in
theorem unpack11_walk (cl : Int) (A : Option Addr) (n c : Nat) (ls : List (List UInt8)) (w : World) (hgl : Glob w) (hw : (Lit.int .i64 cl).wf = true) (hr : RdL w A n c ls) :
    Calls Tryd.prog 4 #[.int .i64 cl, .slice A n c] w fun e w' => e = .returned (.bool true) ∧ Kept [] w w' := by
  have HR := Lib.hid hr
  have HGL := Lib.hid hgl
  have b1 := hr.cap
  have b2 := hr.most
  unfold maxLen at b2
  clear hr hgl hw
  go_enter Tryd.func4, Tryd.ntmps4
  go_wp2_with fail
  refine (wakes11_any _).mono ?_
  rintro e w' ⟨rfl, rfl⟩
  go_wp2_with fail
  refine (longG_any 20 1100 A n c ls _ HR.out (by omega) (by omega)).mono ?_
  rintro e w' ⟨q, rfl, rfl, Hq⟩
  cases q with
  | true =>
    go_wp2
    go_ret
    exact ⟨rfl, Kept.refl _ _⟩
  | false =>
    obtain ⟨hn, hL⟩ := Hq.out rfl
    have HL := Lib.hid hL
    clear hL Hq
    go_wp2_with fail
    refine (copyAll7_any A n c ls _ HR.out (by omega) (fun l hm => by have := HL.out l hm; omega)).mono ?_
    rintro e w1 ⟨A1, n1, c1, rfl, hr1, hk1⟩
    have HK1 := Lib.hid hk1
    have HO1 := Lib.hid hr1
    have d1 := hr1.cap
    have d2 := hr1.most
    unfold maxLen at d2
    obtain ⟨E, hE⟩ : ∃ E, joinE cl ls = E := ⟨_, rfl⟩
    obtain ⟨V, hV⟩ : ∃ V, aKeyV cl ls = V := ⟨_, rfl⟩
    obtain ⟨UE, hUE⟩ : ∃ UE, unpE cl ls = UE := ⟨_, rfl⟩
    obtain ⟨UV, hUV⟩ : ∃ UV, unpV cl ls = UV := ⟨_, rfl⟩
    have hVl := aKeyV_length cl ls
    rw [hV] at hVl
    have HVl := Lib.hid hVl
    have HE := Lib.hid hE
    have HV := Lib.hid hV
    have HUE := Lib.hid hUE
    have HUV := Lib.hid hUV
    have Hsv := Lib.hid (size_of_len (P := Tryd.prog) (ty := 24) size32 HVl.out)
    have Hov := Lib.hid (bvs_one V)
    have Hzv : Hid ((zb 32).length = (bvs V).length) := Lib.hid (by rw [zb_length, bvs_length, HVl.out])
    have Hbb : Hid ((UV == UV) = true) := Lib.hid (by simp)
    clear hr1 hk1 hE hV hUE hUV hVl
    go_wp2_with fail
    refine (aKey_any cl A1 n1 c1 ls _ HO1.out (HGL.out.kept0 HK1.out)).mono ?_
    rw [HE.out, HV.out]
    rintro e w2 ⟨rfl, hk2⟩
    have HK2 := Lib.hid (HK1.out.andThen hk2)
    have HO2 := Lib.hid (HO1.out.kept0 hk2)
    clear hk2 HK1 HO1
    go_wp2_with (with_reducible change wpList _ _ _ (⟨_, Op.alloc _, _, _, _, _⟩ :: _) _ _; refine wpList_alloc_blk rfl 24 rfl _ zero32 ?_)
    intro w3 hG3 hk3 hs3
    obtain ⟨g, hg⟩ : ∃ g, g = w2.heap.size := ⟨_, rfl⟩
    rw [← hg] at hG3 hs3 ⊢
    have lg2 : w2.heap.size ≤ g := by omega
    clear hg hs3
    go_wp2_with (with_reducible change wpList _ _ _ (⟨_, Op.store _ _ _, _, _, _, _⟩ :: _) _ _; refine wpList_store_blk rfl 24 (.tmp 6) (.tmp 24) rfl g (bvs V) rfl rfl 24 (zb 32) hG3 Hsv.out Hzv.out Hov.out ?_)
    intro w4 hG4 hk4 hs4
    have HK24 : Hid (Kept [] w2 w4) := Lib.hid (hk3.trans hk4 (fun i hi => .inr (by have := List.mem_singleton.1 hi; omega)))
    have HK4 := Lib.hid (HK2.out.andThen HK24.out)
    have HO4 := Lib.hid (HO2.out.kept0 HK24.out)
    have HG4 := Lib.hid hG4
    clear hG3 hk3 hk4 hs4 hG4 HK2 HO2 HK24 lg2
    go_wp2_with fail
    refine (rAKey_any cl A n c ls _ (HR.out.kept0 HK4.out)).mono ?_
    rw [HE.out, HV.out]
    rintro e w5 ⟨rfl, hk5⟩
    have HK5 := Lib.hid (HK4.out.andThen hk5)
    have HO5 := Lib.hid (HO4.out.kept0 hk5)
    have HG5 := Lib.hid (HG4.out.kept0 hk5)
    clear hk5 HK4 HO4 HG4
    go_wp2_with (with_reducible change wpList _ _ _ (⟨_, Op.alloc _, _, _, _, _⟩ :: _) _ _; refine wpList_alloc_blk rfl 24 rfl _ zero32 ?_)
    intro w6 hF6 hk6 hs6
    obtain ⟨f, hf⟩ : ∃ f, f = w5.heap.size := ⟨_, rfl⟩
    rw [← hf] at hF6 hs6 ⊢
    have lf5 : w5.heap.size ≤ f := by omega
    have hgf : g ≠ f := by have := HG5.out.lt; omega
    clear hf hs6
    go_wp2_with (with_reducible change wpList _ _ _ (⟨_, Op.store _ _ _, _, _, _, _⟩ :: _) _ _; refine wpList_store_blk rfl 24 (.tmp 8) (.tmp 30) rfl f (bvs V) rfl rfl 24 (zb 32) hF6 Hsv.out Hzv.out Hov.out ?_)
    intro w7 hF7 hk7 hs7
    have HK57 : Hid (Kept [] w5 w7) := Lib.hid (hk6.trans hk7 (fun i hi => .inr (by have := List.mem_singleton.1 hi; omega)))
    have HK7 := Lib.hid (HK5.out.andThen HK57.out)
    have HO7 := Lib.hid (HO5.out.kept0 HK57.out)
    have HG7 := Lib.hid (HG5.out.kept0 HK57.out)
    have HF7 := Lib.hid hF7
    clear hF6 hk6 hk7 hs7 hF7 HK5 HO5 HG5 HK57 lf5
    go_wp2_with fail
    refine (aUnp_any cl A1 n1 c1 ls _ HO7.out (HGL.out.kept0 HK7.out)).mono ?_
    rw [HUE.out, HUV.out]
    rintro e w8 ⟨v8, rfl, ho8, hk8, _⟩
    obtain ⟨A8, n8, c8, rfl, hr8, _⟩ := ho8.form
    have HK8 := Lib.hid (HK7.out.andThen hk8)
    have HO8 := Lib.hid (HO7.out.kept0 hk8)
    have HG8 := Lib.hid (HG7.out.kept0 hk8)
    have HF8 := Lib.hid (HF7.out.kept0 hk8)
    have Hr8 := Lib.hid hr8
    clear ho8 hr8 hk8 HK7 HO7 HG7 HF7
    go_wp2_with fail
    refine (table_any _).mono ?_
    rintro e w9 ⟨rfl, hk9⟩
    have HK9 := Lib.hid (HK8.out.andThen hk9)
    go_wp2_with fail
    refine (rAUnp_any cl A n c ls _ (HR.out.kept0 HK9.out)).mono ?_
    rw [HUE.out, HUV.out]
    rintro e w10 ⟨v10, rfl, ho10, hk10, _⟩
    obtain ⟨A10, n10, c10, rfl, hr10, _⟩ := ho10.form
    have hk810 := hk9.andThen hk10
    have HK10 := Lib.hid (HK8.out.andThen hk810)
    have HO10 := Lib.hid (HO8.out.kept0 hk810)
    have hG10 := HG8.out.kept0 hk810
    have hF10 := HF8.out.kept0 hk810
    have Hr10 := Lib.hid (Hr8.out.kept0 hk810)
    have Hs10 := Lib.hid hr10
    clear ho10 hr10 hk9 hk10 hk810 HK8 HK9 HO8 HG8 HF8 Hr8
    have hg := fun W x y => run_eqGuard_agg (P := Tryd.prog) W .eql 24 x y (bvs V).toArray (bvs V).toArray (by kernel_rfl)
    have heq := fun W => run_equalIn_key V HVl.out W
    go_wp2_with (first
      | (with_reducible change wpList _ _ _ (⟨_, Op.load _ (Operand.tmp 6), _, _, _, _⟩ :: _) _ _; refine wpList_load_blk rfl 24 (.tmp 6) rfl g rfl 24 _ _ hG10 arr32b rfl Hsv.out ?_)
      | (with_reducible change wpList _ _ _ (⟨_, Op.load _ (Operand.tmp 8), _, _, _, _⟩ :: _) _ _; refine wpList_load_blk rfl 24 (.tmp 8) rfl f rfl 24 _ _ hF10 arr32b rfl Hsv.out ?_))
    refine (same_k _ _ _ _ _ _ UV UV _ Hr10.out Hs10.out).mono ?_
    rw [Hbb.out]
    rintro e w11 ⟨rfl, hk11⟩
    have HK11 := Lib.hid (HK10.out.andThen hk11)
    go_wp2_with fail
    refine (sameAll7_any _ _ _ _ _ _ _ _ (HO10.out.kept0 hk11) (HR.out.kept0 HK11.out)).mono ?_
    rintro e w12 ⟨rfl, m, rfl⟩
    go_wp2
    go_ret
    exact ⟨rfl, HK11.out.drewN m⟩
end Go.Proofs.YtmjeojbdieaakaaDoor
