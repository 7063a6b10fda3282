/-
  The walk of a law of layer 6: what is hidden of a beginning is the beginning of what is hidden; and what stands behind whole blocks is hidden from that many on. No statement of the seed is proved here.
-/
import Derived.Test.YtblcamkdkjobbaaLaw6a
import Derived.Test.YtblcamkdkjobbaaPures
import Derived.Test.YtblcamkdkjobbaaHm0
import Derived.Test.YtblcamkdkjobbaaMemV
namespace Go.Proofs.Ytblcamkdkjobbaa
open Go.RowKit
set_option linter.unusedVariables false

set_option maxRecDepth 100000 in
set_option maxHeartbeats 4000000 in
theorem begins_walk (key fr : List UInt8) (A : Option Addr) (n c : Nat) (bs : List UInt8) (w : World) (hkl : key.length = 32) (hfl : fr.length = 16) (hr : RdB w A n c bs) :
    Calls Try.prog 5 #[.agg (bvs key).toArray, .agg (bvs fr).toArray, .slice A n c] w fun e w' => e = .returned (.bool true) ∧ Kept [] w w' := by
  obtain ⟨i0, hi0, hz0, hz1, hz2⟩ := info_parts u8info
  have hcap := hr.cap
  have hmost := hr.most
  unfold maxLen at hmost
  have Hkl := Lib.hid hkl
  have Hfl := Lib.hid hfl
  have Hbl := Lib.hid hr.len
  have HR := Lib.hid (fun W (h : Kept [] w W) => hr.kept0 h)
  have Hsk := Lib.hid (size_of_len (P := Try.prog) (ty := 23) sizeKey hkl)
  have Hsf := Lib.hid (size_of_len (P := Try.prog) (ty := 24) size16 hfl)
  have hA0 := Blk.new w 23 (bvs key)
  have kA : Kept [] w (w.alloc (.cells (bvs key).toArray 23)) := (Kept.refl [] w).alloc _
  obtain ⟨w1, hw1⟩ : ∃ w1, w1 = w.alloc (.cells (bvs key).toArray 23) := ⟨_, rfl⟩
  rw [← hw1] at hA0 kA
  have hB0 := Blk.new w1 24 (bvs fr)
  have kB : Kept [] w1 (w1.alloc (.cells (bvs fr).toArray 24)) := (Kept.refl [] w1).alloc _
  obtain ⟨w2, hw2⟩ : ∃ w2, w2 = w1.alloc (.cells (bvs fr).toArray 24) := ⟨_, rfl⟩
  rw [← hw2] at hB0 kB
  have hA := hA0.kept0 kB
  have hB := hB0
  have hK2 := kA.andThen kB
  obtain ⟨a, ha⟩ : ∃ a, a = w.heap.size := ⟨_, rfl⟩
  obtain ⟨f, hf⟩ : ∃ f, f = w1.heap.size := ⟨_, rfl⟩
  rw [← ha] at hA
  rw [← hf] at hB
  have W1 := Lib.hid hw1
  have W2 := Lib.hid hw2
  have A0 := Lib.hid ha
  have F0 := Lib.hid hf
  clear hA0 kA hB0 kB hw1 hw2 ha hf hkl hfl hr
  go_enter Try.func5, Try.ntmps5
  go_wp2_with (first
    | (with_reducible change wpList _ _ _ (⟨_, Op.box _ (Operand.tmp 0), _, _, _, _⟩ :: _) _ _; refine Great.wpList_boxTo rfl 23 _ rfl _ rfl a A0.out.symm (bvs key).toArray rfl ?_; rw [← W1.out])
    | (with_reducible change wpList _ _ _ (⟨_, Op.box _ (Operand.tmp 1), _, _, _, _⟩ :: _) _ _; refine Great.wpList_boxTo rfl 24 _ rfl _ rfl f F0.out.symm (bvs fr).toArray rfl ?_; rw [← W2.out]))
  clear A0 F0
  refine (wakes6_any _).mono ?_
  rintro e w3 ⟨rfl, hk3⟩
  have hA3 := hA.kept0 hk3
  have hB3 := hB.kept0 hk3
  have hK3 := hK2.andThen hk3
  clear hA hB hK2 hk3 W1 W2
  by_cases hn : 600 < n
  · go_wp2
    go_ret
    exact ⟨rfl, hK3⟩
  · go_wp2_with (first
      | (with_reducible change wpList _ _ _ (⟨_, Op.load _ (Operand.tmp 3), _, _, _, _⟩ :: _) _ _; refine wpList_load_blk rfl 23 (.tmp 3) rfl a rfl 23 _ _ hA3 arrKey rfl Hsk.out ?_)
      | (with_reducible change wpList _ _ _ (⟨_, Op.load _ (Operand.tmp 4), _, _, _, _⟩ :: _) _ _; refine wpList_load_blk rfl 24 (.tmp 4) rfl f rfl 24 _ _ hB3 arr16b rfl Hsf.out ?_))
    refine (hide_any key fr A n c bs _ Hkl.out Hfl.out (HR.out _ hK3) (by omega)).mono ?_
    rintro e w6 ⟨g6, rfl, hH6, _, hk6⟩
    have hA6 := hA3.kept0 hk6
    have hB6 := hB3.kept0 hk6
    have hKw6 := hK3.andThen hk6
    clear hA3 hB3 hK3 hk6
    have SK := Lib.hid (fun W (h : Kept [] w6 W) => And.intro (hA6.kept0 h).rangeOf (hB6.kept0 h).rangeOf)
    have HTl : Hid ((hide (aesWords key) fr bs).length = n) := Lib.hid (by rw [hide_length, Hbl.out])
    obtain ⟨j, hj⟩ : ∃ j : Nat, j = n / 2 / 16 := ⟨_, rfl⟩
    obtain ⟨m, hm⟩ : ∃ m : Nat, m = j * 16 := ⟨_, rfl⟩
    obtain ⟨h2, hh2⟩ : ∃ h2 : Nat, h2 = n / 2 := ⟨_, rfl⟩
    have hmn : m ≤ n := by omega
    have q1 : (n : Int) / 2 = (h2 : Int) := by omega
    have q2 : (h2 : Int) / 16 = (j : Int) := by omega
    have q3 : (j : Int) * 16 = (m : Int) := by omega
    have q4 : (n : Int) / 2 / 16 = (j : Int) := by omega
    have hHr := hH6.all n HTl.out (by omega)
    have htr := HR.out _ hKw6
    obtain ⟨A1, r1, e1⟩ := htr.cutTo (P := Try.prog) 25 5 Try.underlying25 size1u m (m : Int) rfl hmn
    obtain ⟨A2, r2, e2⟩ := hHr.cutTo (P := Try.prog) 25 5 Try.underlying25 size1u m (m : Int) rfl hmn
    obtain ⟨A3, r3, _, e3⟩ := htr.cutFrom (P := Try.prog) 25 5 Try.underlying25 size1u m (m : Int) rfl hmn
    obtain ⟨A4, r4, _, e4⟩ := hHr.cutFrom (P := Try.prog) 25 5 Try.underlying25 size1u m (m : Int) rfl hmn
    have H1 := Lib.hid (fun W (h : Kept [] w6 W) => r1.kept0 h)
    have H2 := Lib.hid (fun W (h : Kept [] w6 W) => r2.kept0 h)
    have H3 := Lib.hid (fun W (h : Kept [] w6 W) => r3.kept0 h)
    have H4 := Lib.hid (fun W (h : Kept [] w6 W) => r4.kept0 h)
    have E1 := Lib.hid e1
    have E2 := Lib.hid e2
    have E3 := Lib.hid e3
    have E4 := Lib.hid e4
    have HKw := Lib.hid hKw6
    have X1 : Hid ((hide (aesWords key) fr (bs.take m) == (hide (aesWords key) fr bs).take m) = true) := Lib.hid (by rw [hide_take]; simp)
    have X2 : Hid ((hide (aesWords key) (cnt fr j) (bs.drop m) == (hide (aesWords key) fr bs).drop m) = true) := Lib.hid (by
      rw [show m = 16 * j by omega, hide_drop]; simp)
    have HL1 : Hid ((hide (aesWords key) fr (bs.take m)).length = m) := Lib.hid (by rw [hide_length, List.length_take, Hbl.out]; omega)
    have HL2 : Hid ((hide (aesWords key) (cnt fr j) (bs.drop m)).length = n - m) := Lib.hid (by rw [hide_length, List.length_drop, Hbl.out])
    have hqj : IntKind.i64.wrap ((m : Int).tdiv 16) = (j : Int) := by rw [Int.tdiv_eq_ediv_of_nonneg (by omega), IntWalk.i64_in _ (by omega)]; omega
    have HQ := Lib.hid hqj
    have hj2 : j ≤ 1000 := by omega
    have hnn : ((n : Int) == (n : Int)) = true := by simp
    clear hA6 hB6 hH6 hKw6 hHr htr r1 r2 r3 r4 e1 e2 e3 e4 hqj hj hm hh2
    go_wp2
    have hHeld := SK.out _ (Kept.refl [] w6).drew
    refine wp_region_begin (fun w' => w'.rangeAt a 0 (bvs key) ∧ w'.rangeAt f 0 (bvs fr)) (by kernel_rfl) ?_
    refine held_pureD 0 23 (.slice (some ⟨g6, 0, none⟩) n n) rfl rfl (by kernel_rfl) (by kernel_rfl) (by kernel_rfl) rfl (fun w _ => rfl) hHeld ?_
    simp only [Act.put, List.setIfInBounds_toArray, List.set_cons_succ, List.set_cons_zero]
    refine held_pureD 1 24 (.int .i64 (n : Int)) rfl rfl (by kernel_rfl) (by kernel_rfl) (by kernel_rfl) rfl (fun w _ => by kernel_rfl) hHeld ?_
    simp only [Act.put, List.setIfInBounds_toArray, List.set_cons_succ, List.set_cons_zero]
    refine held_pureD 2 25 (.slice A n c) rfl rfl (by kernel_rfl) (by kernel_rfl) (by kernel_rfl) rfl (fun w _ => rfl) hHeld ?_
    simp only [Act.put, List.setIfInBounds_toArray, List.set_cons_succ, List.set_cons_zero]
    refine held_pureD 3 26 (.int .i64 (n : Int)) rfl rfl (by kernel_rfl) (by kernel_rfl) (by kernel_rfl) rfl (fun w _ => by kernel_rfl) hHeld ?_
    simp only [Act.put, List.setIfInBounds_toArray, List.set_cons_succ, List.set_cons_zero]
    refine held_one 4 (by kernel_rfl) rfl ?_
    go_wp2
    change _ ∧ wpAnyH _ _ _ _ _ _ _ _ _
    refine ⟨SK.out _ (Kept.refl [] w6).drew, ?_⟩
    refine held_one 5 (by kernel_rfl) rfl ?_
    go_wp2
    change _ ∧ wpAnyH _ _ _ _ _ _ _ _ _
    refine ⟨SK.out _ (Kept.refl [] w6).drew, ?_⟩
    refine held_loadD 6 29 rfl rfl (by kernel_rfl) (by kernel_rfl) (by kernel_rfl) rfl 23 (.tmp 3) rfl a 0 rfl (bvs key) _ (fun w h => h.1) arrKey rfl Hsk.out hHeld ?_
    simp only [Act.put, List.setIfInBounds_toArray, List.set_cons_succ, List.set_cons_zero]
    refine held_loadD 7 30 rfl rfl (by kernel_rfl) (by kernel_rfl) (by kernel_rfl) rfl 24 (.tmp 4) rfl f 0 rfl (bvs fr) _ (fun w h => h.2) arr16b rfl Hsf.out hHeld ?_
    simp only [Act.put, List.setIfInBounds_toArray, List.set_cons_succ, List.set_cons_zero]
    refine held_pureD 8 31 (.slice A n c) rfl rfl (by kernel_rfl) (by kernel_rfl) (by kernel_rfl) rfl (fun w _ => rfl) hHeld ?_
    simp only [Act.put, List.setIfInBounds_toArray, List.set_cons_succ, List.set_cons_zero]
    refine held_pureD 9 32 (.int .i64 (m : Int)) rfl rfl (by kernel_rfl) (by kernel_rfl) (by kernel_rfl) rfl (fun w _ => rfl) hHeld ?_
    simp only [Act.put, List.setIfInBounds_toArray, List.set_cons_succ, List.set_cons_zero]
    refine held_pureD 10 33 (.slice A1 m c) rfl rfl (by kernel_rfl) (by kernel_rfl) (by kernel_rfl) rfl (fun w _ => pure_cut 25 (.tmp 31) none (some (.tmp 32)) rfl A n c _ rfl 5 Try.underlying25 w (E1.out w)) hHeld ?_
    simp only [Act.put, List.setIfInBounds_toArray, List.set_cons_succ, List.set_cons_zero]
    refine held_pureD 12 35 (.slice (some ⟨g6, 0, none⟩) n n) rfl rfl (by kernel_rfl) (by kernel_rfl) (by kernel_rfl) rfl (fun w _ => rfl) hHeld ?_
    simp only [Act.put, List.setIfInBounds_toArray, List.set_cons_succ, List.set_cons_zero]
    refine held_pureD 13 36 (.int .i64 (m : Int)) rfl rfl (by kernel_rfl) (by kernel_rfl) (by kernel_rfl) rfl (fun w _ => rfl) hHeld ?_
    simp only [Act.put, List.setIfInBounds_toArray, List.set_cons_succ, List.set_cons_zero]
    refine held_pureD 14 37 (.slice A2 m n) rfl rfl (by kernel_rfl) (by kernel_rfl) (by kernel_rfl) rfl (fun w _ => pure_cut 25 (.tmp 35) none (some (.tmp 36)) rfl (some ⟨g6, 0, none⟩) n n _ rfl 5 Try.underlying25 w (E2.out w)) hHeld ?_
    simp only [Act.put, List.setIfInBounds_toArray, List.set_cons_succ, List.set_cons_zero]
    refine held_one 11 (by kernel_rfl) rfl ?_
    go_wp2_with fail
    refine (hide_any key fr A1 m c (bs.take m) _ Hkl.out Hfl.out (H1.out _ (Kept.refl [] w6).drew) (by omega)).mono ?_
    rintro e w7 ⟨g7, rfl, hG7, _, hk7⟩
    have hK7 := (Kept.refl [] w6).drew.andThen hk7
    have hr7 := hG7.all m HL1.out (by omega)
    clear hG7
    clear hk7
    go_wp2
    change _ ∧ wpAnyH _ _ _ _ _ _ _ _ _
    refine ⟨SK.out _ hK7, ?_⟩
    refine held_one 15 (by kernel_rfl) rfl ?_
    go_wp2_with fail
    refine (same_k (some ⟨g7, 0, none⟩) A2 m m m n _ _ _ hr7 (H2.out _ hK7)).mono ?_
    rw [X1.out]
    rintro e w8 ⟨rfl, hk8⟩
    have hK8 := hK7.andThen hk8
    clear hr7
    clear hk8
    go_wp2
    change _ ∧ wpAnyH _ _ _ _ _ _ _ _ _
    refine ⟨SK.out _ hK8, ?_⟩
    refine held_one 16 (by kernel_rfl) rfl ?_
    go_wp2
    change _ ∧ wpAnyH _ _ _ _ _ _ _ _ _
    refine ⟨SK.out _ hK8, ?_⟩
    refine held_one 17 (by kernel_rfl) rfl ?_
    go_wp2
    change _ ∧ wpAnyH _ _ _ _ _ _ _ _ _
    refine ⟨SK.out _ hK8, ?_⟩
    have hHeld := SK.out _ hK8
    refine held_loadD 18 41 rfl rfl (by kernel_rfl) (by kernel_rfl) (by kernel_rfl) rfl 23 (.tmp 3) rfl a 0 rfl (bvs key) _ (fun w h => h.1) arrKey rfl Hsk.out hHeld ?_
    simp only [Act.put, List.setIfInBounds_toArray, List.set_cons_succ, List.set_cons_zero]
    refine held_loadD 19 42 rfl rfl (by kernel_rfl) (by kernel_rfl) (by kernel_rfl) rfl 24 (.tmp 4) rfl f 0 rfl (bvs fr) _ (fun w h => h.2) arr16b rfl Hsf.out hHeld ?_
    simp only [Act.put, List.setIfInBounds_toArray, List.set_cons_succ, List.set_cons_zero]
    refine held_pureD 20 43 (.int .i64 (m : Int)) rfl rfl (by kernel_rfl) (by kernel_rfl) (by kernel_rfl) rfl (fun w _ => rfl) hHeld ?_
    simp only [Act.put, List.setIfInBounds_toArray, List.set_cons_succ, List.set_cons_zero]
    refine held_pureD 21 44 (.int .i64 (j : Int)) rfl rfl (by kernel_rfl) (by kernel_rfl) (by kernel_rfl) rfl (fun w _ => pure_quo 3 _ (.tmp 43) (.const (.int .i64 16)) rfl .i64 _ _ _ rfl rfl (by decide) HQ.out w) hHeld ?_
    simp only [Act.put, List.setIfInBounds_toArray, List.set_cons_succ, List.set_cons_zero]
    refine held_pureD 22 45 (.int .u64 (j : Int)) rfl rfl (by kernel_rfl) (by kernel_rfl) (by kernel_rfl) rfl (fun w _ => pure_conv 3 34 (.tmp 44) rfl .i64 .u64 _ _ rfl (by kernel_rfl) (by kernel_rfl) (IntWalk.u64_in _ (by omega)) w) hHeld ?_
    simp only [Act.put, List.setIfInBounds_toArray, List.set_cons_succ, List.set_cons_zero]
    refine held_pureD 24 47 (.slice A n c) rfl rfl (by kernel_rfl) (by kernel_rfl) (by kernel_rfl) rfl (fun w _ => rfl) hHeld ?_
    simp only [Act.put, List.setIfInBounds_toArray, List.set_cons_succ, List.set_cons_zero]
    refine held_pureD 25 48 (.int .i64 (m : Int)) rfl rfl (by kernel_rfl) (by kernel_rfl) (by kernel_rfl) rfl (fun w _ => rfl) hHeld ?_
    simp only [Act.put, List.setIfInBounds_toArray, List.set_cons_succ, List.set_cons_zero]
    refine held_pureD 26 49 (.slice A3 (n - m) (c - m)) rfl rfl (by kernel_rfl) (by kernel_rfl) (by kernel_rfl) rfl (fun w _ => pure_cut 25 (.tmp 47) (some (.tmp 48)) none rfl A n c _ rfl 5 Try.underlying25 w (E3.out w)) hHeld ?_
    simp only [Act.put, List.setIfInBounds_toArray, List.set_cons_succ, List.set_cons_zero]
    refine held_pureD 28 51 (.slice (some ⟨g6, 0, none⟩) n n) rfl rfl (by kernel_rfl) (by kernel_rfl) (by kernel_rfl) rfl (fun w _ => rfl) hHeld ?_
    simp only [Act.put, List.setIfInBounds_toArray, List.set_cons_succ, List.set_cons_zero]
    refine held_pureD 29 52 (.int .i64 (m : Int)) rfl rfl (by kernel_rfl) (by kernel_rfl) (by kernel_rfl) rfl (fun w _ => rfl) hHeld ?_
    simp only [Act.put, List.setIfInBounds_toArray, List.set_cons_succ, List.set_cons_zero]
    refine held_pureD 30 53 (.slice A4 (n - m) (n - m)) rfl rfl (by kernel_rfl) (by kernel_rfl) (by kernel_rfl) rfl (fun w _ => pure_cut 25 (.tmp 51) (some (.tmp 52)) none rfl (some ⟨g6, 0, none⟩) n n _ rfl 5 Try.underlying25 w (E4.out w)) hHeld ?_
    simp only [Act.put, List.setIfInBounds_toArray, List.set_cons_succ, List.set_cons_zero]
    refine held_one 23 (by kernel_rfl) rfl ?_
    go_wp2_with fail
    refine (count_any fr j _ _ Hfl.out (by omega) rfl).mono ?_
    rintro e w9 ⟨rfl, hk9⟩
    have hK9 := hK8.andThen hk9
    clear hk9
    go_wp2
    change _ ∧ wpAnyH _ _ _ _ _ _ _ _ _
    refine ⟨SK.out _ hK9, ?_⟩
    refine held_one 27 (by kernel_rfl) rfl ?_
    go_wp2_with fail
    refine (hide_any key (cnt fr j) A3 (n - m) (c - m) (bs.drop m) _ Hkl.out (cnt_length _ _) (H3.out _ hK9) (by omega)).mono ?_
    rintro e w10 ⟨g10, rfl, hG10, _, hk10⟩
    have hK10 := hK9.andThen hk10
    have hr10 := hG10.all (n - m) HL2.out (by omega)
    clear hG10
    clear hk10
    go_wp2
    change _ ∧ wpAnyH _ _ _ _ _ _ _ _ _
    refine ⟨SK.out _ hK10, ?_⟩
    refine held_one 31 (by kernel_rfl) rfl ?_
    go_wp2_with fail
    refine (same_k (some ⟨g10, 0, none⟩) A4 (n - m) (n - m) (n - m) (n - m) _ _ _ hr10 (H4.out _ hK10)).mono ?_
    rw [X2.out]
    rintro e w11 ⟨rfl, hk11⟩
    have hK11 := hK10.andThen hk11
    clear hr10
    clear hk11
    go_wp2
    change _ ∧ wpAnyH _ _ _ _ _ _ _ _ _
    refine ⟨SK.out _ hK11, ?_⟩
    refine held_one 32 (by kernel_rfl) rfl ?_
    go_wp2
    change _ ∧ wpAnyH _ _ _ _ _ _ _ _ _
    refine ⟨SK.out _ hK11, ?_⟩
    refine held_one 33 (by kernel_rfl) rfl ?_
    go_wp2
    change _ ∧ wpAnyH _ _ _ _ _ _ _ _ _
    refine ⟨SK.out _ hK11, ?_⟩
    refine held_done (by kernel_rfl) ?_
    go_wp2
    go_ret
    exact ⟨rfl, HKw.out.andThen hK11⟩
end Go.Proofs.Ytblcamkdkjobbaa
