/-
  The walk of a law of layer 13: names, over whatever contract the program's Name keeps. Written by a script. No statement of the seed is proved here.
-/
import Derived.Test.YtibcjbelcplpjaaDoorLaw13w
import Derived.Test.YtibcjbelcplpjaaDoorFnN
import Derived.Test.YtibcjbelcplpjaaDoorPuB
import Derived.Test.YtibcjbelcplpjaaDoorSetC
import Derived.Test.YtibcjbelcplpjaaDoorCuts
namespace Go.Proofs.YtibcjbelcplpjaaDoor
open Go.RowKit
set_option linter.unusedVariables false

theorem str_eq {s t : ByteArray} (h : strL s = strL t) : s = t := by
  apply ByteArray.ext
  rw [← Array.toList_inj]
  exact h

set_option maxRecDepth 100000 in
set_option maxHeartbeats 8000000 in
theorem names13_walk {G : World → Prop} (HN : NameHas G) (a b : List UInt8) (x y : Int) (w : World) (hgl : G w) (ha : a.length = 16) (hb : b.length = 16) (hx0 : -9223372036854775808 ≤ x) (hx1 : x ≤ 9223372036854775807) (hy0 : -9223372036854775808 ≤ y) (hy1 : y ≤ 9223372036854775807) :
    Calls Tryd.prog 6 #[.agg (bvs a).toArray, .agg (bvs b).toArray, .agg #[.int .i64 x, .int .i64 y]] w fun e w' => e = .returned (.bool true) ∧ Kept [] w w' := by
  obtain ⟨w1, hw1⟩ : ∃ w1, w1 = w.alloc (.cells (bvs a).toArray 25) := ⟨_, rfl⟩
  obtain ⟨w2, hw2⟩ : ∃ w2, w2 = w1.alloc (.cells (bvs b).toArray 25) := ⟨_, rfl⟩
  obtain ⟨w3, hw3⟩ : ∃ w3, w3 = w2.alloc (.cells #[.int .i64 x, .int .i64 y] 47) := ⟨_, rfl⟩
  obtain ⟨ga, hga⟩ : ∃ g, g = w.heap.size := ⟨_, rfl⟩
  obtain ⟨gb, hgb⟩ : ∃ g, g = w1.heap.size := ⟨_, rfl⟩
  obtain ⟨gc, hgc⟩ : ∃ g, g = w2.heap.size := ⟨_, rfl⟩
  have hk1 : Kept [] w w1 := by rw [hw1]; exact (Kept.refl [] w).alloc _
  have hk2 : Kept [] w1 w2 := by rw [hw2]; exact (Kept.refl [] w1).alloc _
  have hk3 : Kept [] w2 w3 := by rw [hw3]; exact (Kept.refl [] w2).alloc _
  have hA : Blk w1 ga 25 (bvs a) := by rw [hw1, hga]; exact Blk.new w 25 (bvs a)
  have hB : Blk w2 gb 25 (bvs b) := by rw [hw2, hgb]; exact Blk.new w1 25 (bvs b)
  have hC : Blk w3 gc 47 [.int .i64 x, .int .i64 y] := by rw [hw3, hgc]; exact Blk.new w2 47 [.int .i64 x, .int .i64 y]
  have HA := Lib.hid ((hA.kept0 hk2).kept0 hk3)
  have HB := Lib.hid (hB.kept0 hk3)
  have HC := Lib.hid hC
  have HK3 := Lib.hid ((hk1.andThen hk2).andThen hk3)
  have W1 := Lib.hid hw1
  have W2 := Lib.hid hw2
  have W3 := Lib.hid hw3
  have A0 := Lib.hid hga
  have B0 := Lib.hid hgb
  have C0 := Lib.hid hgc
  have Hsa := Lib.hid (size_of_len (P := Tryd.prog) (ty := 25) sizeId ha)
  have Hsb := Lib.hid (size_of_len (P := Tryd.prog) (ty := 25) sizeId hb)
  have SK : Hid (∀ W, Kept [] w3 W → W.rangeAt ga 0 (bvs a) ∧ W.rangeAt gb 0 (bvs b) ∧ W.cell? ⟨gc, 0, none⟩ = some (.int .i64 x) ∧ W.cell? ⟨gc, 1, none⟩ = some (.int .i64 y)) := Lib.hid (fun W h => ⟨(HA.out.kept0 h).rangeOf, (HB.out.kept0 h).rangeOf, (HC.out.kept0 h).cell 0, (HC.out.kept0 h).cell 1⟩)
  have Hla := Lib.hid ha
  have Hlb := Lib.hid hb
  have HNa := Lib.hid (fun W (hW : Kept [] w3 W) => HN.name a x W ha hx0 hx1 (HN.kept (HN.kept hgl HK3.out) hW))
  have HNb := Lib.hid (fun W (hW : Kept [] w3 W) => HN.name b y W hb hy0 hy1 (HN.kept (HN.kept hgl HK3.out) hW))
  have HRa := Lib.hid (fun W => rNam_any a x W ha hx0 hx1)
  have HW := Lib.hid (wakes13_any HN w3 (HN.kept hgl HK3.out))
  have heq : ∀ W, (Op.equalIn 10000 25 (.agg (bvs a).toArray) (.agg (bvs b).toArray)).run Tryd.prog W = .ok (a == b) W := fun W => run_equalIn_bytes (P := Tryd.prog) W 9998 25 5 16 arrId und8k size_run8k a b ha hb
  have HI : Hid (nameL a x = nameL b y ↔ a = b ∧ x = y) := Lib.hid (nameL_inj (by rw [ha, hb]))
  obtain ⟨Na, hNa⟩ : ∃ N, nameL a x = N := ⟨_, rfl⟩
  obtain ⟨Nb, hNb⟩ : ∃ N, nameL b y = N := ⟨_, rfl⟩
  rw [hNa] at HNa HRa HI
  rw [hNb] at HNb HI
  clear hw1 hw2 hw3 hga hgb hgc hk1 hk2 hk3 hA hB hC ha hb HN hgl hNa hNb
  go_enter Tryd.func6, Tryd.ntmps6
  go_wp2_with (first
    | (with_reducible change wpList _ _ _ (⟨_, Op.box _ (.tmp 0), _, _, _, _⟩ :: _) _ _; refine Great.wpList_boxTo rfl 25 _ rfl _ rfl ga A0.out.symm (bvs a).toArray rfl ?_; rw [← W1.out])
    | (with_reducible change wpList _ _ _ (⟨_, Op.box _ (.tmp 1), _, _, _, _⟩ :: _) _ _; refine Great.wpList_boxTo rfl 25 _ rfl _ rfl gb B0.out.symm (bvs b).toArray rfl ?_; rw [← W2.out])
    | (with_reducible change wpList _ _ _ (⟨_, Op.box _ (.tmp 2), _, _, _, _⟩ :: _) _ _; refine Great.wpList_boxTo rfl 47 _ rfl _ rfl gc C0.out.symm #[.int .i64 x, .int .i64 y] rfl ?_; rw [← W3.out]))
  refine HW.out.mono ?_
  rintro e w4 ⟨rfl, hk4⟩
  go_wp2
  have hHeld := SK.out _ hk4.drew
  refine wp_region_begin (fun W => W.rangeAt ga 0 (bvs a) ∧ W.rangeAt gb 0 (bvs b) ∧ W.cell? ⟨gc, 0, none⟩ = some (.int .i64 x) ∧ W.cell? ⟨gc, 1, none⟩ = some (.int .i64 y)) (by kernel_rfl) ?_
  refine held_loadD 0 11 rfl rfl (by kernel_rfl) (by kernel_rfl) (by kernel_rfl) rfl 25 (.tmp 3) rfl ga 0 rfl (bvs a) _ (fun w h => h.1) arrId rfl Hsa.out hHeld ?_
  simp only [Act.put, List.setIfInBounds_toArray, List.set_cons_succ, List.set_cons_zero]
  refine held_pureD 1 12 (Value.pointer (some ⟨gc, 0, none⟩)) rfl rfl (by kernel_rfl) (by kernel_rfl) (by kernel_rfl) rfl (fun w hS => by kernel_rfl) hHeld ?_
  simp only [Act.put, List.setIfInBounds_toArray, List.set_cons_succ, List.set_cons_zero]
  refine held_pureD 2 13 (.int .i64 x) rfl rfl (by kernel_rfl) (by kernel_rfl) (by kernel_rfl) rfl (fun w hS => pureC 3 (.tmp 12) rfl ⟨gc, 0, none⟩ _ rfl (fun w => by kernel_rfl) w hS.2.2.1) hHeld ?_
  simp only [Act.put, List.setIfInBounds_toArray, List.set_cons_succ, List.set_cons_zero]
  refine held_loadD 4 15 rfl rfl (by kernel_rfl) (by kernel_rfl) (by kernel_rfl) rfl 25 (.tmp 4) rfl gb 0 rfl (bvs b) _ (fun w h => h.2.1) arrId rfl Hsb.out hHeld ?_
  simp only [Act.put, List.setIfInBounds_toArray, List.set_cons_succ, List.set_cons_zero]
  refine held_pureD 5 16 (Value.pointer (some ⟨gc, 1, none⟩)) rfl rfl (by kernel_rfl) (by kernel_rfl) (by kernel_rfl) rfl (fun w hS => by kernel_rfl) hHeld ?_
  simp only [Act.put, List.setIfInBounds_toArray, List.set_cons_succ, List.set_cons_zero]
  refine held_pureD 6 17 (.int .i64 y) rfl rfl (by kernel_rfl) (by kernel_rfl) (by kernel_rfl) rfl (fun w hS => pureC 3 (.tmp 16) rfl ⟨gc, 1, none⟩ _ rfl (fun w => by kernel_rfl) w hS.2.2.2) hHeld ?_
  simp only [Act.put, List.setIfInBounds_toArray, List.set_cons_succ, List.set_cons_zero]
  refine held_one 3 (by kernel_rfl) rfl ?_
  go_wp2_with fail
  refine (HNa.out _ hk4.drew).mono ?_
  rintro e w5 ⟨s1, rfl, hs1, hk5⟩
  have hK5 := hk4.drew.andThen hk5
  clear hk5
  go_wp2
  change _ ∧ wpAnyH _ _ _ _ _ _ _ _ _
  refine ⟨SK.out _ hK5, ?_⟩
  refine held_one 7 (by kernel_rfl) rfl ?_
  go_wp2_with fail
  refine (HNb.out _ hK5).mono ?_
  rintro e w6 ⟨s2, rfl, hs2, hk6⟩
  have hK6 := hK5.andThen hk6
  clear hk6
  go_wp2
  change _ ∧ wpAnyH _ _ _ _ _ _ _ _ _
  refine ⟨SK.out _ hK6, ?_⟩
  refine held_one 8 (by kernel_rfl) rfl ?_
  go_wp2
  change _ ∧ wpAnyH _ _ _ _ _ _ _ _ _
  refine ⟨SK.out _ hK6, ?_⟩
  refine held_one 9 (by kernel_rfl) rfl ?_
  go_wp2
  change _ ∧ wpAnyH _ _ _ _ _ _ _ _ _
  refine ⟨SK.out _ hK6, ?_⟩
  refine held_done (by kernel_rfl) ?_
  have HK6 := Lib.hid (HK3.out.andThen hK6)
  obtain ⟨d1, d2, d3, d4⟩ := SK.out _ hK6
  have HRg1 := Lib.hid d1
  have HRg2 := Lib.hid d2
  clear hHeld hK5 d1 d2
  have HS1 := Lib.hid hs1
  have HS2 := Lib.hid hs2
  clear hs1 hs2
  go_wp2_with (with_reducible change wpList _ _ _ (⟨_, Op.load 25 (.tmp 3), _, _, _, _⟩ :: _) _ _; refine wpList_load_mid rfl 25 (.tmp 3) rfl ga 0 rfl _ _ HRg1.out arrId rfl Hsa.out ?_)
  refine (HRa.out _).mono ?_
  rintro e w7 ⟨s3, rfl, hs3, hk7⟩
  obtain rfl : s1 = s3 := str_eq (HS1.out.trans hs3.symm)
  have hK7 := hK6.andThen hk7
  obtain ⟨d1, d2, d3, d4⟩ := SK.out _ hK7
  have HRh1 := Lib.hid d1
  have HRh2 := Lib.hid d2
  have HK7 := Lib.hid (HK6.out.andThen hk7)
  clear d1 d2 hs3 hk7 hK6 hK7 HRg1 HRg2 HK6
  have hcase : (a == b) = false ∨ ((a == b) = true ∧ (x == y) = false) ∨ ((a == b) = true ∧ (x == y) = true) := by
    cases (a == b) <;> cases (x == y) <;> simp
  have HC12 : Hid (∀ t : Bool, t = decide (a = b ∧ x = y) → (s1.toList == s2.toList) = t) := Lib.hid (fun t ht => by
    have e1 : s1.toList = Na := (ByteArray.toList_eq s1).trans HS1.out
    have e2 : s2.toList = Nb := (ByteArray.toList_eq s2).trans HS2.out
    rw [ht, e1, e2, Bool.eq_iff_iff, decide_eq_true_iff, ← HI.out]
    simp)
  rcases hcase with h1 | ⟨h1, h2⟩ | ⟨h1, h2⟩
  · have hab : ¬ a = b := by simpa using h1
    have h12 := HC12.out false (by simp [hab])
    rw [h1] at heq
    clear hab
    go_wp2_with (with_reducible change wpList _ _ _ (⟨some 24, _, _, _, _, _⟩ :: _) _ _; refine wpList_val rfl _ (pureStrEq _ _ (.tmp 19) (.tmp 23) rfl s1 s1 rfl rfl true (by simp) _) ?_; simp only [Act.put, List.setIfInBounds_toArray, List.set_cons_succ, List.set_cons_zero]; refine wpList_val rfl (.bool true) rfl ?_; simp only [Act.put, List.setIfInBounds_toArray, List.set_cons_succ, List.set_cons_zero]; refine wpList_unguard (by first | (simp [Region.wanted, yielded]; done) | (simp [Region.wanted, yielded, Act.put]; done) | rfl) ?_; refine wpList_val rfl (.string s1) rfl ?_; simp only [Act.put, List.setIfInBounds_toArray, List.set_cons_succ, List.set_cons_zero]; refine wpList_unguard (by first | (simp [Region.wanted, yielded]; done) | (simp [Region.wanted, yielded, Act.put]; done) | rfl) ?_; refine wpList_val rfl (.string s2) rfl ?_; simp only [Act.put, List.setIfInBounds_toArray, List.set_cons_succ, List.set_cons_zero]; refine wpList_unguard (by first | (simp [Region.wanted, yielded]; done) | (simp [Region.wanted, yielded, Act.put]; done) | rfl) ?_; refine wpList_val rfl _ (pureStrEq _ _ (.tmp 26) (.tmp 27) rfl s1 s2 rfl rfl _ h12 _) ?_; simp only [Act.put, List.setIfInBounds_toArray, List.set_cons_succ, List.set_cons_zero]; refine wpList_unguard (by first | (simp [Region.wanted, yielded]; done) | (simp [Region.wanted, yielded, Act.put]; done) | rfl) ?_; refine wpList_load_mid rfl 25 (.tmp 3) rfl ga 0 rfl _ _ HRh1.out arrId rfl Hsa.out ?_; simp only [Act.put, List.setIfInBounds_toArray, List.set_cons_succ, List.set_cons_zero]; refine wpList_unguard (by first | (simp [Region.wanted, yielded]; done) | (simp [Region.wanted, yielded, Act.put]; done) | rfl) ?_; refine wpList_load_mid rfl 25 (.tmp 4) rfl gb 0 rfl _ _ HRh2.out arrId rfl Hsb.out ?_; simp only [Act.put, List.setIfInBounds_toArray, List.set_cons_succ, List.set_cons_zero])
    go_ret
    exact ⟨rfl, HK7.out⟩
  · have hab : a = b := by simpa using h1
    have hxy : ¬ x = y := by simpa using h2
    have h12 := HC12.out false (by simp [hxy])
    rw [h1] at heq
    clear hab hxy
    go_wp2_with (with_reducible change wpList _ _ _ (⟨some 24, _, _, _, _, _⟩ :: _) _ _; refine wpList_val rfl _ (pureStrEq _ _ (.tmp 19) (.tmp 23) rfl s1 s1 rfl rfl true (by simp) _) ?_; simp only [Act.put, List.setIfInBounds_toArray, List.set_cons_succ, List.set_cons_zero]; refine wpList_val rfl (.bool true) rfl ?_; simp only [Act.put, List.setIfInBounds_toArray, List.set_cons_succ, List.set_cons_zero]; refine wpList_unguard (by first | (simp [Region.wanted, yielded]; done) | (simp [Region.wanted, yielded, Act.put]; done) | rfl) ?_; refine wpList_val rfl (.string s1) rfl ?_; simp only [Act.put, List.setIfInBounds_toArray, List.set_cons_succ, List.set_cons_zero]; refine wpList_unguard (by first | (simp [Region.wanted, yielded]; done) | (simp [Region.wanted, yielded, Act.put]; done) | rfl) ?_; refine wpList_val rfl (.string s2) rfl ?_; simp only [Act.put, List.setIfInBounds_toArray, List.set_cons_succ, List.set_cons_zero]; refine wpList_unguard (by first | (simp [Region.wanted, yielded]; done) | (simp [Region.wanted, yielded, Act.put]; done) | rfl) ?_; refine wpList_val rfl _ (pureStrEq _ _ (.tmp 26) (.tmp 27) rfl s1 s2 rfl rfl _ h12 _) ?_; simp only [Act.put, List.setIfInBounds_toArray, List.set_cons_succ, List.set_cons_zero]; refine wpList_unguard (by first | (simp [Region.wanted, yielded]; done) | (simp [Region.wanted, yielded, Act.put]; done) | rfl) ?_; refine wpList_load_mid rfl 25 (.tmp 3) rfl ga 0 rfl _ _ HRh1.out arrId rfl Hsa.out ?_; simp only [Act.put, List.setIfInBounds_toArray, List.set_cons_succ, List.set_cons_zero]; refine wpList_unguard (by first | (simp [Region.wanted, yielded]; done) | (simp [Region.wanted, yielded, Act.put]; done) | rfl) ?_; refine wpList_load_mid rfl 25 (.tmp 4) rfl gb 0 rfl _ _ HRh2.out arrId rfl Hsb.out ?_; simp only [Act.put, List.setIfInBounds_toArray, List.set_cons_succ, List.set_cons_zero])
    go_ret
    exact ⟨rfl, HK7.out⟩
  · have hab : a = b := by simpa using h1
    have hxy : x = y := by simpa using h2
    have h12 := HC12.out true (by simp [hab, hxy])
    rw [h1] at heq
    clear hab hxy
    go_wp2_with (with_reducible change wpList _ _ _ (⟨some 24, _, _, _, _, _⟩ :: _) _ _; refine wpList_val rfl _ (pureStrEq _ _ (.tmp 19) (.tmp 23) rfl s1 s1 rfl rfl true (by simp) _) ?_; simp only [Act.put, List.setIfInBounds_toArray, List.set_cons_succ, List.set_cons_zero]; refine wpList_val rfl (.bool true) rfl ?_; simp only [Act.put, List.setIfInBounds_toArray, List.set_cons_succ, List.set_cons_zero]; refine wpList_unguard (by first | (simp [Region.wanted, yielded]; done) | (simp [Region.wanted, yielded, Act.put]; done) | rfl) ?_; refine wpList_val rfl (.string s1) rfl ?_; simp only [Act.put, List.setIfInBounds_toArray, List.set_cons_succ, List.set_cons_zero]; refine wpList_unguard (by first | (simp [Region.wanted, yielded]; done) | (simp [Region.wanted, yielded, Act.put]; done) | rfl) ?_; refine wpList_val rfl (.string s2) rfl ?_; simp only [Act.put, List.setIfInBounds_toArray, List.set_cons_succ, List.set_cons_zero]; refine wpList_unguard (by first | (simp [Region.wanted, yielded]; done) | (simp [Region.wanted, yielded, Act.put]; done) | rfl) ?_; refine wpList_val rfl _ (pureStrEq _ _ (.tmp 26) (.tmp 27) rfl s1 s2 rfl rfl _ h12 _) ?_; simp only [Act.put, List.setIfInBounds_toArray, List.set_cons_succ, List.set_cons_zero]; refine wpList_unguard (by first | (simp [Region.wanted, yielded]; done) | (simp [Region.wanted, yielded, Act.put]; done) | rfl) ?_; refine wpList_load_mid rfl 25 (.tmp 3) rfl ga 0 rfl _ _ HRh1.out arrId rfl Hsa.out ?_; simp only [Act.put, List.setIfInBounds_toArray, List.set_cons_succ, List.set_cons_zero]; refine wpList_unguard (by first | (simp [Region.wanted, yielded]; done) | (simp [Region.wanted, yielded, Act.put]; done) | rfl) ?_; refine wpList_load_mid rfl 25 (.tmp 4) rfl gb 0 rfl _ _ HRh2.out arrId rfl Hsb.out ?_; simp only [Act.put, List.setIfInBounds_toArray, List.set_cons_succ, List.set_cons_zero])
    go_ret
    exact ⟨rfl, HK7.out⟩
end Go.Proofs.YtibcjbelcplpjaaDoor
