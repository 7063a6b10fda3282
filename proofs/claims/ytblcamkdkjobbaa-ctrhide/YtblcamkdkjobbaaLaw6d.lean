/-
  The walk of a law of layer 6: any text is hidden, by any key and from any beginning, as the document says, and told again by the same; it stays as it was. No statement of the seed is proved here.
-/
import Derived.Test.YtblcamkdkjobbaaLaw6a
import Derived.Test.YtblcamkdkjobbaaPures
import Derived.Test.YtblcamkdkjobbaaHm0
import Derived.Test.YtblcamkdkjobbaaMemV
import Derived.Test.YtblcamkdkjobbaaRc2
namespace Go.Proofs.Ytblcamkdkjobbaa
open Go.RowKit
set_option linter.unusedVariables false

set_option maxRecDepth 100000 in
set_option maxHeartbeats 4000000 in
theorem hide_walk (key fr : List UInt8) (A : Option Addr) (n c : Nat) (bs : List UInt8) (w : World) (hkl : key.length = 32) (hfl : fr.length = 16) (hr : RdB w A n c bs) :
    Calls Try.prog 3 #[.agg (bvs key).toArray, .agg (bvs fr).toArray, .slice A n c] w fun e w' => e = .returned (.bool true) ∧ Kept [] w w' := by
  obtain ⟨i0, hi0, hz0, hz1, hz2⟩ := info_parts u8info
  have hcap := hr.cap
  have hmost := hr.most
  unfold maxLen at hmost
  have Hkl := Lib.hid hkl
  have Hfl := Lib.hid hfl
  have Hbl := Lib.hid hr.len
  have HR := Lib.hid (fun W (h : Kept [] w W) => hr.kept0 h)
  have Hsk := Lib.hid (size_of_len (P := Try.prog) (ty := 23) sizeKey hkl)
  have Hsf := Lib.hid (size_of_len (P := Try.prog) (ty := 24) size16 hfl)
  have hA0 := Blk.new w 23 (bvs key)
  have kA : Kept [] w (w.alloc (.cells (bvs key).toArray 23)) := (Kept.refl [] w).alloc _
  obtain ⟨w1, hw1⟩ : ∃ w1, w1 = w.alloc (.cells (bvs key).toArray 23) := ⟨_, rfl⟩
  rw [← hw1] at hA0 kA
  have hB0 := Blk.new w1 24 (bvs fr)
  have kB : Kept [] w1 (w1.alloc (.cells (bvs fr).toArray 24)) := (Kept.refl [] w1).alloc _
  obtain ⟨w2, hw2⟩ : ∃ w2, w2 = w1.alloc (.cells (bvs fr).toArray 24) := ⟨_, rfl⟩
  rw [← hw2] at hB0 kB
  have hA := hA0.kept0 kB
  have hB := hB0
  have hK2 := kA.andThen kB
  obtain ⟨a, ha⟩ : ∃ a, a = w.heap.size := ⟨_, rfl⟩
  obtain ⟨f, hf⟩ : ∃ f, f = w1.heap.size := ⟨_, rfl⟩
  rw [← ha] at hA
  rw [← hf] at hB
  have W1 := Lib.hid hw1
  have W2 := Lib.hid hw2
  have A0 := Lib.hid ha
  have F0 := Lib.hid hf
  clear hA0 kA hB0 kB hw1 hw2 ha hf hkl hfl hr
  go_enter Try.func3, Try.ntmps3
  go_wp2_with (first
    | (with_reducible change wpList _ _ _ (⟨_, Op.box _ (Operand.tmp 0), _, _, _, _⟩ :: _) _ _; refine Great.wpList_boxTo rfl 23 _ rfl _ rfl a A0.out.symm (bvs key).toArray rfl ?_; rw [← W1.out])
    | (with_reducible change wpList _ _ _ (⟨_, Op.box _ (Operand.tmp 1), _, _, _, _⟩ :: _) _ _; refine Great.wpList_boxTo rfl 24 _ rfl _ rfl f F0.out.symm (bvs fr).toArray rfl ?_; rw [← W2.out]))
  clear A0 F0
  refine (wakes6_any _).mono ?_
  rintro e w3 ⟨rfl, hk3⟩
  have hA3 := hA.kept0 hk3
  have hB3 := hB.kept0 hk3
  have hK3 := hK2.andThen hk3
  clear hA hB hK2 hk3 W1 W2
  by_cases hn : 300 < n
  · go_wp2
    go_ret
    exact ⟨rfl, hK3⟩
  · have HO := Lib.hid (own_empty w3)
    have HA4 : Hid (Kept [] w (w3.alloc (.cells #[] 5))) := Lib.hid (hK3.alloc _)
    have HA5 : Hid (Kept [] w3 (w3.alloc (.cells #[] 5))) := Lib.hid ((Kept.refl [] w3).alloc _)
    go_wp2_with (at_builtin; refine wpList_append_bytes rfl (.tmp 14) (.tmp 15) 25 rfl 5 i0 _ 1 Try.underlying25 hi0 hz0 hz1 hz2 rfl (.slice (some ⟨w3.heap.size, 0, none⟩) 0 0) [] rfl HO.out A n c bs rfl (HR.out _ HA4.out) (by simp only [maxLen, List.length_nil]; omega) (by simp only [List.length_nil]; omega) ?_)
    intro v5 w5 ho5 hk5 hm5
    obtain ⟨hK5, _⟩ := app_new HA5.out (by intro g hg; simp [Value.ownBlock] at hg; omega) hk5 hm5
    obtain ⟨A5, n5, c5, rfl, hr5, _⟩ := ho5.form
    obtain rfl : n = n5 := by have := hr5.len; have := Hbl.out; omega
    have hA5 := hA3.kept0 hK5
    have hB5 := hB3.kept0 hK5
    have hKw5 := hK3.andThen hK5
    clear HO HA4 HA5 hk5 hm5 hK5 ho5 hA3 hB3 hK3
    go_wp2_with (first
      | (with_reducible change wpList _ _ _ (⟨_, Op.load _ (Operand.tmp 3), _, _, _, _⟩ :: _) _ _; refine wpList_load_blk rfl 23 (.tmp 3) rfl a rfl 23 _ _ hA5 arrKey rfl Hsk.out ?_)
      | (with_reducible change wpList _ _ _ (⟨_, Op.load _ (Operand.tmp 4), _, _, _, _⟩ :: _) _ _; refine wpList_load_blk rfl 24 (.tmp 4) rfl f rfl 24 _ _ hB5 arr16b rfl Hsf.out ?_))
    refine (hide_any key fr A5 n c5 bs _ Hkl.out Hfl.out hr5 (by omega)).mono ?_
    rintro e w6 ⟨g6, rfl, hH6, _, hk6⟩
    have hA6 := hA5.kept0 hk6
    have hB6 := hB5.kept0 hk6
    have hr6 := hr5.kept0 hk6
    have hKw6 := hKw5.andThen hk6
    clear hA5 hB5 hr5 hKw5 hk6
    have SK := Lib.hid (fun W (h : Kept [] w6 W) => And.intro (hA6.kept0 h).rangeOf (hB6.kept0 h).rangeOf)
    have HTl : Hid ((hide (aesWords key) fr bs).length = n) := Lib.hid (by rw [hide_length, Hbl.out])
    have HH := Lib.hid (fun W (h : Kept [] w6 W) => (hH6.kept0 h).all n HTl.out (by omega))
    have HO5 := Lib.hid (fun W (h : Kept [] w6 W) => hr6.kept0 h)
    have HT := Lib.hid (fun W (h : Kept [] w6 W) => HR.out W (hKw6.andThen h))
    have HKw := Lib.hid hKw6
    have Hhh := Lib.hid (hide_hide (aesWords key) fr bs)
    have Hbb : Hid ((hide (aesWords key) fr bs == hide (aesWords key) fr bs) = true) := Lib.hid (by simp)
    have Hbs : Hid ((bs == bs) = true) := Lib.hid (by simp)
    clear hA6 hB6 hH6 hr6 hKw6
    go_wp2
    have hHeld := SK.out _ (Kept.refl [] w6).drew
    refine wp_region_begin (fun w' => w'.rangeAt a 0 (bvs key) ∧ w'.rangeAt f 0 (bvs fr)) (by kernel_rfl) ?_
    refine held_pureD 0 21 (.slice (some ⟨g6, 0, none⟩) n n) rfl rfl (by kernel_rfl) (by kernel_rfl) (by kernel_rfl) rfl (fun w _ => rfl) hHeld ?_
    simp only [Act.put, List.setIfInBounds_toArray, List.set_cons_succ, List.set_cons_zero]
    refine held_loadD 2 23 rfl rfl (by kernel_rfl) (by kernel_rfl) (by kernel_rfl) rfl 23 (.tmp 3) rfl a 0 rfl (bvs key) _ (fun w h => h.1) arrKey rfl Hsk.out hHeld ?_
    simp only [Act.put, List.setIfInBounds_toArray, List.set_cons_succ, List.set_cons_zero]
    refine held_loadD 3 24 rfl rfl (by kernel_rfl) (by kernel_rfl) (by kernel_rfl) rfl 24 (.tmp 4) rfl f 0 rfl (bvs fr) _ (fun w h => h.2) arr16b rfl Hsf.out hHeld ?_
    simp only [Act.put, List.setIfInBounds_toArray, List.set_cons_succ, List.set_cons_zero]
    refine held_pureD 4 25 (.slice A n c) rfl rfl (by kernel_rfl) (by kernel_rfl) (by kernel_rfl) rfl (fun w _ => rfl) hHeld ?_
    simp only [Act.put, List.setIfInBounds_toArray, List.set_cons_succ, List.set_cons_zero]
    refine held_one 1 (by kernel_rfl) rfl ?_
    go_wp2_with fail
    refine (table_any _).mono ?_
    rintro e w7 ⟨rfl, hk7⟩
    have hK7 := (Kept.refl [] w6).drew.andThen hk7
    clear hk7
    go_wp2
    change _ ∧ wpAnyH _ _ _ _ _ _ _ _ _
    refine ⟨SK.out _ hK7, ?_⟩
    refine held_one 5 (by kernel_rfl) rfl ?_
    go_wp2_with fail
    refine (rfast_any key fr A n c bs _ Hkl.out Hfl.out (HT.out _ hK7) (by omega)).mono ?_
    rintro e w8 ⟨A8, c8, rfl, hr8, hk8⟩
    have hK8 := hK7.andThen hk8
    clear hk8
    go_wp2
    change _ ∧ wpAnyH _ _ _ _ _ _ _ _ _
    refine ⟨SK.out _ hK8, ?_⟩
    refine held_one 6 (by kernel_rfl) rfl ?_
    go_wp2_with fail
    refine (same_k (some ⟨g6, 0, none⟩) A8 n n n c8 _ _ _ (HH.out _ hK8) hr8).mono ?_
    rw [Hbb.out]
    rintro e w9 ⟨rfl, hk9⟩
    have hK9 := hK8.andThen hk9
    clear hr8
    clear hk9
    go_wp2
    change _ ∧ wpAnyH _ _ _ _ _ _ _ _ _
    refine ⟨SK.out _ hK9, ?_⟩
    refine held_one 7 (by kernel_rfl) rfl ?_
    go_wp2
    change _ ∧ wpAnyH _ _ _ _ _ _ _ _ _
    refine ⟨SK.out _ hK9, ?_⟩
    have hHeld := SK.out _ hK9
    refine held_loadD 8 29 rfl rfl (by kernel_rfl) (by kernel_rfl) (by kernel_rfl) rfl 23 (.tmp 3) rfl a 0 rfl (bvs key) _ (fun w h => h.1) arrKey rfl Hsk.out hHeld ?_
    simp only [Act.put, List.setIfInBounds_toArray, List.set_cons_succ, List.set_cons_zero]
    refine held_loadD 9 30 rfl rfl (by kernel_rfl) (by kernel_rfl) (by kernel_rfl) rfl 24 (.tmp 4) rfl f 0 rfl (bvs fr) _ (fun w h => h.2) arr16b rfl Hsf.out hHeld ?_
    simp only [Act.put, List.setIfInBounds_toArray, List.set_cons_succ, List.set_cons_zero]
    refine held_pureD 10 31 (.slice (some ⟨g6, 0, none⟩) n n) rfl rfl (by kernel_rfl) (by kernel_rfl) (by kernel_rfl) rfl (fun w _ => rfl) hHeld ?_
    simp only [Act.put, List.setIfInBounds_toArray, List.set_cons_succ, List.set_cons_zero]
    refine held_pureD 12 33 (.slice A n c) rfl rfl (by kernel_rfl) (by kernel_rfl) (by kernel_rfl) rfl (fun w _ => rfl) hHeld ?_
    simp only [Act.put, List.setIfInBounds_toArray, List.set_cons_succ, List.set_cons_zero]
    refine held_one 11 (by kernel_rfl) rfl ?_
    go_wp2_with fail
    refine (hide_any key fr (some ⟨g6, 0, none⟩) n n _ _ Hkl.out Hfl.out (HH.out _ hK9) (by omega)).mono ?_
    rw [Hhh.out]
    rintro e w10 ⟨g10, rfl, hG10, _, hk10⟩
    have hK10 := hK9.andThen hk10
    have hr10 := hG10.all n Hbl.out (by omega)
    clear hG10
    clear hk10
    go_wp2
    change _ ∧ wpAnyH _ _ _ _ _ _ _ _ _
    refine ⟨SK.out _ hK10, ?_⟩
    refine held_one 13 (by kernel_rfl) rfl ?_
    go_wp2_with fail
    refine (same_k (some ⟨g10, 0, none⟩) A n n n c bs bs _ hr10 (HT.out _ hK10)).mono ?_
    rw [Hbs.out]
    rintro e w11 ⟨rfl, hk11⟩
    have hK11 := hK10.andThen hk11
    clear hr10
    clear hk11
    go_wp2
    change _ ∧ wpAnyH _ _ _ _ _ _ _ _ _
    refine ⟨SK.out _ hK11, ?_⟩
    refine held_one 14 (by kernel_rfl) rfl ?_
    go_wp2
    change _ ∧ wpAnyH _ _ _ _ _ _ _ _ _
    refine ⟨SK.out _ hK11, ?_⟩
    refine held_one 15 (by kernel_rfl) rfl ?_
    go_wp2
    change _ ∧ wpAnyH _ _ _ _ _ _ _ _ _
    refine ⟨SK.out _ hK11, ?_⟩
    have hHeld := SK.out _ hK11
    refine held_pureD 16 37 (.slice A5 n c5) rfl rfl (by kernel_rfl) (by kernel_rfl) (by kernel_rfl) rfl (fun w _ => rfl) hHeld ?_
    simp only [Act.put, List.setIfInBounds_toArray, List.set_cons_succ, List.set_cons_zero]
    refine held_pureD 17 38 (.slice A n c) rfl rfl (by kernel_rfl) (by kernel_rfl) (by kernel_rfl) rfl (fun w _ => rfl) hHeld ?_
    simp only [Act.put, List.setIfInBounds_toArray, List.set_cons_succ, List.set_cons_zero]
    refine held_one 18 (by kernel_rfl) rfl ?_
    go_wp2_with fail
    refine (same_k A5 A n n c5 c bs bs _ (HO5.out _ hK11) (HT.out _ hK11)).mono ?_
    rw [Hbs.out]
    rintro e w12 ⟨rfl, hk12⟩
    have hK12 := hK11.andThen hk12
    clear hk12
    go_wp2
    change _ ∧ wpAnyH _ _ _ _ _ _ _ _ _
    refine ⟨SK.out _ hK12, ?_⟩
    refine held_one 19 (by kernel_rfl) rfl ?_
    go_wp2
    change _ ∧ wpAnyH _ _ _ _ _ _ _ _ _
    refine ⟨SK.out _ hK12, ?_⟩
    refine held_one 20 (by kernel_rfl) rfl ?_
    go_wp2
    change _ ∧ wpAnyH _ _ _ _ _ _ _ _ _
    refine ⟨SK.out _ hK12, ?_⟩
    refine held_done (by kernel_rfl) ?_
    go_wp2
    go_ret
    exact ⟨rfl, HKw.out.andThen hK12⟩
end Go.Proofs.Ytblcamkdkjobbaa
