/-
  Contract of layer 11 (aont): the secret that slices tell. No statement of the seed is proved here.
-/
import Derived.Test.YtmjeojbdieaakaaDoorAp9
import Derived.Test.YtmjeojbdieaakaaDoorAp8
import Derived.Test.YtmjeojbdieaakaaDoorApM
namespace Go.Proofs.YtmjeojbdieaakaaDoor
open Go.RowKit
set_option linter.unusedVariables false

set_option maxRecDepth 100000 in
set_option maxHeartbeats 4000000 in
theorem aUnp_no (cl : Int) (A : Option Addr) (n c : Nat) (ls : List (List UInt8)) (w : World) (hr : RdL w A n c ls) (hgl : Glob w) (h : joinE cl ls ≠ 0) :
    Calls Tryd.prog 14 #[.int .i64 cl, .slice A n c] w (JoinRet (unpV cl ls) (unpE cl ls) w) := by
  have HU := Lib.hid (unp_no h)
  rw [HU.out.1, HU.out.2]
  have HVl : Hid ((aKeyV cl ls).length = 32) := Lib.hid (by unfold aKeyV; rw [if_neg h, List.length_replicate])
  have HKy := Lib.hid (aKey_any cl A n c ls w hr hgl)
  obtain ⟨E, hE⟩ : ∃ E, joinE cl ls = E := ⟨_, rfl⟩
  obtain ⟨V, hV⟩ : ∃ V, aKeyV cl ls = V := ⟨_, rfl⟩
  rw [hE] at h
  rw [hE, hV] at HKy
  rw [hV] at HVl
  rw [hE]
  have b1 := hr.cap
  have b2 := hr.most
  unfold maxLen at b2
  have Hsv := Lib.hid (size_of_len (P := Tryd.prog) (ty := 24) size32 HVl.out)
  have Hov := Lib.hid (bvs_one V)
  have Hzv : Hid ((zb 32).length = (bvs V).length) := Lib.hid (by rw [zb_length, bvs_length, HVl.out])
  clear hE hV hr hgl HU
  go_enter Tryd.func14, Tryd.ntmps14
  go_wp2_with fail
  refine HKy.out.mono ?_
  rintro e w1 ⟨rfl, hk1⟩
  go_wp2_with (with_reducible change wpList _ _ _ (⟨_, Op.alloc _, _, _, _, _⟩ :: _) _ _; refine wpList_alloc_blk rfl 24 rfl _ zero32 ?_)
  intro w2 hB2 hk2 hs2
  go_wp2_with (with_reducible change wpList _ _ _ (⟨_, Op.store _ _ _, _, _, _, _⟩ :: _) _ _; refine wpList_store_blk rfl 24 (.tmp 6) (.tmp 14) rfl w1.heap.size (bvs V) rfl rfl 24 (zb 32) hB2 Hsv.out Hzv.out Hov.out ?_)
  intro w3 hB3 hk3 hs3
  have hK3 : Kept [] w w3 := (hk1.andThen hk2).trans hk3 (fun i hi => .inr (by have := List.mem_singleton.1 hi; have := hk1.size; omega))
  have hb : E ≠ 0 := h
  clear hB2 hB3 hk1 hk2 hk3 hs2 hs3
  go_wp2
  go_ret2
  exact ⟨_, rfl, OwB.nil _ _, hK3, by simp [Value.ownBlock]⟩

set_option maxRecDepth 100000 in
set_option maxHeartbeats 4000000 in
theorem aUnp_yes (C : Nat) (A : Option Addr) (n c : Nat) (ls : List (List UInt8)) (w : World) (hr : RdL w A n c ls) (hgl : Glob w) (h : joinE (C : Int) ls = 0) :
    Calls Tryd.prog 14 #[.int .i64 (C : Int), .slice A n c] w (JoinRet (unpV (C : Int) ls) (unpE (C : Int) ls) w) := by
  have hl := hr.len
  obtain ⟨C', e1, hcl, hC2, hn1, hn2, hFl, hF1, hF2⟩ := join_facts h
  obtain rfl : C = C' := by omega
  have hC1 : 32 ≤ C := by have := isCls_cases hcl; omega
  have hall := (joinE_yes h).2.2.2
  rw [Int.toNat_natCast] at hall
  have hS1 : 1 ≤ sizN C ls.length := sizN_pos hn1
  have hw := whole_wrong hC1 hn1 hFl
  have hbad : wrongB C (inL C ls.flatten) (ls.flatten.drop (C + 48)) = true → unpE (C : Int) ls = 11 ∧ unpV (C : Int) ls = [] := fun g => unp_bad h (by rw [hw, g]; rfl)
  have hok : wrongB C (inL C ls.flatten) (ls.flatten.drop (C + 48)) = false → unpE (C : Int) ls = 0 ∧ unpV (C : Int) ls = secL C ls.flatten := fun g => unp_ok h (by rw [hw, g]; rfl)
  have hlen2 : wrongB C (inL C ls.flatten) (ls.flatten.drop (C + 48)) = false → lenN (inL C ls.flatten) + 2 ≤ C := fun g => by
    rcases Nat.lt_or_ge C (lenN (inL C ls.flatten) + 2) with h1 | h1
    · have : wrongB C (inL C ls.flatten) (ls.flatten.drop (C + 48)) = true := by unfold wrongB; rw [decide_eq_true h1]; simp
      rw [this] at g
      cases g
    · exact h1
  have HKy := Lib.hid (aKey_any (C : Int) A n c ls w hr hgl)
  have HPr := Lib.hid (fun w hr => aPar_any C A n c ls w hr (by omega) (by omega) (fun l hm => by rw [hall l hm]; omega) hC2 hF1 hF2)
  have hkv : aKeyV (C : Int) ls = keyL C ls.flatten := by unfold aKeyV; rw [if_pos h, Int.toNat_natCast]
  obtain ⟨F, hF⟩ : ∃ F, ls.flatten = F := ⟨_, rfl⟩
  rw [hF] at hw hbad hok hlen2 HPr hkv hF1 hF2
  rw [hkv, h] at HKy
  have hkl := keyL_length hF1
  have hIh : hide (aesWords (keyL C F)) (List.replicate 16 0) (F.take (C + 16)) = inL C F := by unfold inL nil16; rfl
  have hIl := inL_length hF1
  have hsec : secL C F = ((inL C F).drop 2).take (lenN (inL C F)) := by unfold secL; rw [lenN_in]
  obtain ⟨V, hV⟩ : ∃ V, keyL C F = V := ⟨_, rfl⟩
  rw [hV] at HKy hkl hIh
  obtain ⟨I, hI⟩ : ∃ I, inL C F = I := ⟨_, rfl⟩
  rw [hI] at hIh hIl hsec hw hbad hok hlen2
  obtain ⟨fl, hfl⟩ : ∃ fl, F.drop (C + 48) = fl := ⟨_, rfl⟩
  rw [hfl] at hw hbad hok hlen2
  obtain ⟨UE, hUE⟩ : ∃ UE, unpE (C : Int) ls = UE := ⟨_, rfl⟩
  obtain ⟨UV, hUV⟩ : ∃ UV, unpV (C : Int) ls = UV := ⟨_, rfl⟩
  rw [hUE, hUV] at hbad hok ⊢
  obtain ⟨J, hJ⟩ : ∃ J, J = C + 16 := ⟨_, rfl⟩
  have j1 : 48 ≤ J := by omega
  have j2 : J ≤ 1040 := by omega
  have HJ := Lib.hid hJ
  rw [← hJ] at hIh hIl
  obtain ⟨N, hN⟩ : ∃ N, lenN I = N := ⟨_, rfl⟩
  rw [hN] at hlen2 hsec
  have HN := Lib.hid hN
  have HFl := Lib.hid hfl
  have HVl := Lib.hid hkl
  have HIh := Lib.hid hIh
  have HIl := Lib.hid hIl
  have Hbad := Lib.hid hbad
  have Hok := Lib.hid hok
  have Hl2 := Lib.hid hlen2
  have Hsec := Lib.hid hsec
  have HR := Lib.hid hr
  have b1 := hr.cap
  have b2 := hr.most
  unfold maxLen at b2
  have Hsv := Lib.hid (size_of_len (P := Tryd.prog) (ty := 24) size32 HVl.out)
  have Hov := Lib.hid (bvs_one V)
  have Hzv : Hid ((zb 32).length = (bvs V).length) := Lib.hid (by rw [zb_length, bvs_length, HVl.out])
  clear hw hbad hok hlen2 hkv hV hI hfl hUE hUV hkl hIh hIl hsec hr hgl hl h hcl hFl hall hS1 hF hJ e1 hN
  go_enter Tryd.func14, Tryd.ntmps14
  go_wp2_with fail
  refine HKy.out.mono ?_
  rintro e w1 ⟨rfl, hk1⟩
  go_wp2_with (with_reducible change wpList _ _ _ (⟨_, Op.alloc _, _, _, _, _⟩ :: _) _ _; refine wpList_alloc_blk rfl 24 rfl _ zero32 ?_)
  intro w2 hB2 hk2 hs2
  obtain ⟨a, ha⟩ : ∃ a, a = w1.heap.size := ⟨_, rfl⟩
  rw [← ha] at hB2 hs2 ⊢
  have la : w.heap.size ≤ a := by have := hk1.size; omega
  clear ha
  go_wp2_with (with_reducible change wpList _ _ _ (⟨_, Op.store _ _ _, _, _, _, _⟩ :: _) _ _; refine wpList_store_blk rfl 24 (.tmp 6) (.tmp 14) rfl a (bvs V) rfl rfl 24 (zb 32) hB2 Hsv.out Hzv.out Hov.out ?_)
  intro w3 hB3 hk3 hs3
  have HK3 : Hid (Kept [] w w3) := Lib.hid ((hk1.andThen hk2).trans hk3 (fun i hi => .inr (by have := List.mem_singleton.1 hi; omega)))
  have HB3 := Lib.hid hB3
  clear hB2 hB3 hk1 hk2 hk3 hs2 hs3 HKy
  go_wp2_with fail
  refine (HPr.out _ (HR.out.kept0 HK3.out)).mono ?_
  rintro e w4 ⟨v, rfl, hP4, hk4⟩
  obtain ⟨A1, A2, A3, c1, c2, c3, rfl, hr1, hr2, hr3, l1, l2, l3⟩ := hP4.val
  rw [← HJ.out] at hr1
  rw [HFl.out] at hr3
  rw [← HJ.out]
  have Hr1 := Lib.hid hr1
  have Hr3 := Lib.hid hr3
  have HK4 := Lib.hid (HK3.out.andThen hk4)
  have HB4 := Lib.hid (HB3.out.kept0 hk4)
  have d1 := hr1.cap
  have d2 := hr1.most
  unfold maxLen at d2
  have d5 := hr3.cap
  have d6 := hr3.most
  unfold maxLen at d6
  obtain ⟨n3, hn3⟩ : ∃ n3, F.length - (C + 48) = n3 := ⟨_, rfl⟩
  rw [hn3] at Hr3 d5 ⊢
  clear hP4 hr1 hr2 hr3 l1 l2 l3 hk4 HK3 HB3 hn3 HPr HR
  go_wp2_with (with_reducible change wpList _ _ _ (⟨_, Op.alloc _, _, _, _, _⟩ :: _) _ _; refine wpList_alloc_blk rfl 69 rfl _ zeroPt ?_)
  intro w5 hQ5 hk5 hs5
  obtain ⟨p, hp⟩ : ∃ p, p = w4.heap.size := ⟨_, rfl⟩
  rw [← hp] at hQ5 hs5 ⊢
  have lp4 : w4.heap.size ≤ p := by omega
  have hap : a ≠ p := by have := HB4.out.lt; omega
  clear hp
  go_wp2_with (with_reducible change wpList _ _ _ (⟨_, Op.store _ _ _, _, _, _, _⟩ :: _) _ _; refine storePt rfl (.tmp 8) (.tmp 21) rfl p _ _ _ _ _ _ _ _ _ rfl rfl hQ5 ?_)
  intro w6 hQ6 hk6 hs6
  have HK46 : Hid (Kept [] w4 w6) := Lib.hid (hk5.trans hk6 (fun i hi => .inr (by have := List.mem_singleton.1 hi; omega)))
  have HK6 := Lib.hid (HK4.out.andThen HK46.out)
  have hB6 := HB4.out.kept0 HK46.out
  have Hr16 := Lib.hid (Hr1.out.kept0 HK46.out)
  have Hr36 := Lib.hid (Hr3.out.kept0 HK46.out)
  have q0 : w6.cell? ⟨p, 0, none⟩ = some (.slice A1 J c1) := hQ6.cell 0
  have q2 : w6.cell? ⟨p, 2, none⟩ = some (.slice A3 n3 c3) := hQ6.cell 2
  have HQ6 := Lib.hid hQ6
  clear hQ5 hk5 hs5 hk6 hs6 HK4 HB4 Hr1 Hr3 HK46 hQ6 q2
  go_wp2_with (with_reducible change wpList _ _ _ (⟨_, Op.load _ (Operand.tmp 6), _, _, _, _⟩ :: _) _ _; refine wpList_load_blk rfl 24 (.tmp 6) rfl a rfl 24 _ _ hB6 arr32b rfl Hsv.out ?_)
  refine (hide_any V (List.replicate 16 0) A1 J c1 (F.take J) _ HVl.out (by simp) Hr16.out (by omega)).mono ?_
  rw [HIh.out]
  rintro e w7 ⟨g7, rfl, hB7, lg7, hk7⟩
  have hr7 : RdB w7 (some ⟨g7, 0, none⟩) J J I := hB7.rdb 0 J J I (by rw [List.drop_zero]; exact List.take_of_length_le (by rw [bvs_length, HIl.out]; omega)) HIl.out (Nat.le_refl _) (by simp only [maxLen]; omega)
  have Hr7 := Lib.hid hr7
  have q2 : w7.cell? ⟨p, 2, none⟩ = some (.slice A3 n3 c3) := (HQ6.out.kept0 hk7).cell 2
  have HK7 := Lib.hid (HK6.out.andThen hk7)
  have HWr := Lib.hid (aWro_any C (some ⟨g7, 0, none⟩) A3 J n3 c3 I fl w7 hC1 hC2 (by rw [← HJ.out]; exact hr7) (Hr36.out.kept0 hk7))
  clear hB7 lg7 hk7 hr7 q0 hB6 HQ6 HK6 Hr16 Hr36
  go_wp2_with fail
  refine Calls.mono (by have h := HWr.out; rw [← HJ.out] at h; exact h) ?_
  rintro e w8 ⟨rfl, hk8⟩
  have HK8 := Lib.hid (HK7.out.andThen hk8)
  have Hr8 := Lib.hid (Hr7.out.kept0 hk8)
  clear hk8 q2 HWr HK7 Hr7
  cases hwr : wrongB C I fl with
  | true =>
    have HB := Lib.hid (Hbad.out hwr)
    clear hwr
    go_wp2
    go_ret2
    rw [HB.out.1, HB.out.2]
    exact ⟨_, rfl, OwB.nil _ _, HK8.out, by simp [Value.ownBlock]⟩
  | false =>
    have HB := Lib.hid (Hok.out hwr)
    have hl2 := Hl2.out hwr
    have hNJ : N + 2 ≤ J := by have := HJ.out; omega
    clear hwr
    go_wp2_with fail
    refine (aLen_any (some ⟨g7, 0, none⟩) J J I _ Hr8.out (by omega)).mono ?_
    rw [HN.out]
    rintro e w9 ⟨rfl, hk9⟩
    obtain ⟨A', hrc, _, qc⟩ := Hr8.out.cutMidO (P := Tryd.prog) 22 5 Tryd.underlying22 size1ap 2 (2 + N) 2 (2 + (N : Int)) rfl (by omega) (by omega) (by omega)
    rw [Nat.add_sub_cancel_left] at hrc qc
    obtain ⟨cc, hcc⟩ : ∃ cc, J - 2 = cc := ⟨_, rfl⟩
    rw [hcc] at hrc qc
    have Hrc := Lib.hid (hrc.kept0 hk9)
    have HK9 := Lib.hid (HK8.out.andThen hk9)
    clear hrc hk9 hcc HK8 Hr8
    go_wp2_with fail
    refine (clone_any A' N cc ((I.drop 2).take N) _ Hrc.out (by omega)).mono ?_
    rintro e w10 ⟨v10, rfl, ho10, hk10, hf10⟩
    have HK10 := Lib.hid (HK9.out.andThen hk10)
    have Hf : Hid (∀ g, v10.ownBlock = some g → w.heap.size ≤ g) := Lib.hid (fun g hg => by have := hf10 g hg; have := HK9.out.size; omega)
    clear hf10 hk10 Hrc HK9
    go_wp2
    go_ret2
    rw [HB.out.1, HB.out.2, Hsec.out]
    exact ⟨v10, rfl, ho10, HK10.out, Hf.out⟩
theorem aUnp_any (cl : Int) (A : Option Addr) (n c : Nat) (ls : List (List UInt8)) (w : World) (hr : RdL w A n c ls) (hgl : Glob w) :
    Calls Tryd.prog 14 #[.int .i64 cl, .slice A n c] w (JoinRet (unpV cl ls) (unpE cl ls) w) := by
  by_cases h : joinE cl ls = 0
  · obtain ⟨C, rfl, _⟩ := join_facts h
    exact aUnp_yes C A n c ls w hr hgl h
  · exact aUnp_no cl A n c ls w hr hgl h
end Go.Proofs.YtmjeojbdieaakaaDoor
