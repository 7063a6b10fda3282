/-
  The walk of a law of layer 5, up to the document's Block: any key encrypts any block as the document says, each time alike. No statement of the seed is proved here.
-/
import Derived.Test.YticjdmdbjhbddaaLaw5a
import Derived.Test.YticjdmdbjhbddaaRa2
namespace Go.Proofs.Yticjdmdbjhbddaa
open Go.RowKit
set_option linter.unusedVariables false

/-- The document's Block does what it is to do. -/
def RBlock : Prop := ∀ (gw : Nat) (K x0 : List UInt8) (w : World), Blk w gw 5 (bvs K) → K.length = 240 → x0.length = 16 →
    Calls Try.prog 10 #[.agg (bvs sbox).toArray, .slice (some ⟨gw, 0, none⟩) 240 240, .agg (bvs x0).toArray] w (KeyRet (aesBlock K x0) w)

set_option maxRecDepth 100000 in
set_option maxHeartbeats 4000000 in
theorem aesblock_step (hRB : RBlock) (key x : List UInt8) (w : World) (hkl : key.length = 32) (hxl : x.length = 16) :
    Calls Try.prog 3 #[.agg (bvs key).toArray, .agg (bvs x).toArray] w fun e w' => e = .returned (.bool true) ∧ Kept [] w w' := by
  have HRB := Lib.hid hRB
  have Hkl := Lib.hid hkl
  have Hxl := Lib.hid hxl
  have HKl := Lib.hid (aesWords_length hkl)
  have Hsk := Lib.hid (size_of_len (P := Try.prog) (ty := 23) sizeKey hkl)
  have Hsx := Lib.hid (size_of_len (P := Try.prog) (ty := 24) size16 hxl)
  have Hsl := Lib.hid sbox_length
  have Hszs := Lib.hid (size_of_len (P := Try.prog) (ty := 26) size256 Hsl.out)
  have Hzs := Lib.hid (zb_len Hsl.out)
  have HX := Lib.hid (aesBlock_length (aesWords key) x)
  have Hsy := Lib.hid (size_of_len (P := Try.prog) (ty := 24) size16 HX.out)
  have Hzy := Lib.hid (zb_len HX.out)
  have hA0 := Blk.new w 23 (bvs key)
  have kA : Kept [] w (w.alloc (.cells (bvs key).toArray 23)) := (Kept.refl [] w).alloc _
  have sA : (w.alloc (.cells (bvs key).toArray 23)).heap.size = w.heap.size + 1 := by simp
  obtain ⟨w1, hw1⟩ : ∃ w1, w1 = w.alloc (.cells (bvs key).toArray 23) := ⟨_, rfl⟩
  rw [← hw1] at hA0 kA sA
  have hB0 := Blk.new w1 24 (bvs x)
  have kB : Kept [] w1 (w1.alloc (.cells (bvs x).toArray 24)) := (Kept.refl [] w1).alloc _
  obtain ⟨w2, hw2⟩ : ∃ w2, w2 = w1.alloc (.cells (bvs x).toArray 24) := ⟨_, rfl⟩
  rw [← hw2] at hB0 kB
  have hA := hA0.kept0 kB
  have hB := hB0
  have hK3 := kA.andThen kB
  obtain ⟨a, ha⟩ : ∃ a, a = w.heap.size := ⟨_, rfl⟩
  obtain ⟨b, hb⟩ : ∃ b, b = w1.heap.size := ⟨_, rfl⟩
  rw [← ha] at hA
  rw [← hb] at hB
  have W1 := Lib.hid hw1
  have W2 := Lib.hid hw2
  have A0 := Lib.hid ha
  have B0 := Lib.hid hb
  clear hA0 kA sA hB0 kB hw1 hw2 ha hb hkl hxl hRB
  go_enter Try.func3, Try.ntmps3
  go_wp2_with (first
    | (with_reducible change wpList _ _ _ (⟨_, Op.box _ (Operand.tmp 0), _, _, _, _⟩ :: _) _ _; refine Great.wpList_boxTo rfl 23 _ rfl _ rfl a A0.out.symm (bvs key).toArray rfl ?_; rw [← W1.out])
    | (with_reducible change wpList _ _ _ (⟨_, Op.box _ (Operand.tmp 1), _, _, _, _⟩ :: _) _ _; refine Great.wpList_boxTo rfl 24 _ rfl _ rfl b B0.out.symm (bvs x).toArray rfl ?_; rw [← W2.out]))
  clear A0 B0
  refine (wakes5_any _).mono ?_
  rintro e w4 ⟨rfl, hk4⟩
  have hA4 := hA.kept0 hk4
  have hB4 := hB.kept0 hk4
  have hK4 := hK3.andThen hk4
  clear hA hB hK3 hk4 W1 W2
  go_wp2_with fail
  refine (table_any _).mono ?_
  rintro e w5 ⟨rfl, hk5⟩
  have hA5 := hA4.kept0 hk5
  have hB5 := hB4.kept0 hk5
  have hK5 := hK4.andThen hk5
  clear hA4 hB4 hK4 hk5
  go_wp2_with (with_reducible change wpList _ _ _ (⟨_, Op.alloc _, _, _, _, _⟩ :: _) _ _; refine wpList_alloc_blk rfl 26 rfl _ zero256 ?_)
  intro w6 hP6 hk6 hs6
  go_wp2_with (with_reducible change wpList _ _ _ (⟨_, Op.store _ _ _, _, _, _, _⟩ :: _) _ _; refine wpList_store_blk rfl 26 (.tmp 5) (.tmp 10) rfl w5.heap.size (bvs sbox) rfl rfl 26 (zb 256) hP6 Hszs.out Hzs.out (bvs_one _) ?_)
  intro w7 hP7 hk7 hs7
  obtain ⟨p, hp⟩ : ∃ p, p = w5.heap.size := ⟨_, rfl⟩
  have hal := hA5.lt
  have hbl := hB5.lt
  have hA7 := (hA5.kept0 hk6).kept hk7 (by simp; omega)
  have hB7 := (hB5.kept0 hk6).kept hk7 (by simp; omega)
  have hK7 : Kept [] w w7 := (hK5.andThen hk6).trans hk7 (by have := hK5.size; simp; omega)
  rw [← hp] at hP7 ⊢
  clear hP6 hk6 hk7 hs6 hs7 hp hK5 hA5 hB5 hal hbl
  go_wp2_with (with_reducible change wpList _ _ _ (⟨_, Op.load _ _, _, _, _, _⟩ :: _) _ _; refine wpList_load_blk rfl 23 (.tmp 2) rfl a rfl 23 _ _ hA7 arrKey rfl Hsk.out ?_)
  refine (new_any key _ Hkl.out).mono ?_
  rintro e w8 ⟨q, rfl, hb8, hq8, hk8⟩
  have hA8 := hA7.kept0 hk8
  have hB8 := hB7.kept0 hk8
  have hP8 := hP7.kept0 hk8
  have hK8 := hK7.andThen hk8
  clear hA7 hB7 hP7 hK7 hk8 hq8
  go_wp2_with (with_reducible change wpList _ _ _ (⟨_, Op.load _ _, _, _, _, _⟩ :: _) _ _; refine wpList_load_blk rfl 24 (.tmp 3) rfl b rfl 24 _ _ hB8 arr16b rfl Hsx.out ?_)
  refine (block5_any q (aesWords key) x _ hb8 Hxl.out).mono ?_
  rintro e w9 ⟨rfl, hk9⟩
  have hA9 := hA8.kept0 hk9
  have hB9 := hB8.kept0 hk9
  have hP9 := hP8.kept0 hk9
  have hb9 := hb8.kept0 hk9
  have hK9 := hK8.andThen hk9
  clear hA8 hB8 hP8 hb8 hK8 hk9
  go_wp2_with (with_reducible change wpList _ _ _ (⟨_, Op.alloc _, _, _, _, _⟩ :: _) _ _; refine wpList_alloc_blk rfl 24 rfl _ zero16 ?_)
  intro w10 hY10 hk10 hs10
  go_wp2_with (with_reducible change wpList _ _ _ (⟨_, Op.store _ _ _, _, _, _, _⟩ :: _) _ _; refine wpList_store_blk rfl 24 (.tmp 7) (.tmp 15) rfl w9.heap.size (bvs (aesBlock (aesWords key) x)) rfl rfl 24 (zb 16) hY10 Hsy.out Hzy.out (bvs_one _) ?_)
  intro w11 hY11 hk11 hs11
  obtain ⟨y, hy⟩ : ∃ y, y = w9.heap.size := ⟨_, rfl⟩
  have hal := hA9.lt
  have hbl := hB9.lt
  have hpl := hP9.lt
  have hql := hb9.lt
  have hA11 := (hA9.kept0 hk10).kept hk11 (by simp; omega)
  have hB11 := (hB9.kept0 hk10).kept hk11 (by simp; omega)
  have hP11 := (hP9.kept0 hk10).kept hk11 (by simp; omega)
  have hb11 := (hb9.kept0 hk10).kept hk11 (by simp; omega)
  have hK11 : Kept [] w w11 := (hK9.andThen hk10).trans hk11 (by have := hK9.size; simp; omega)
  rw [← hy] at hY11 ⊢
  clear hY10 hk10 hk11 hs10 hs11 hy hK9 hA9 hB9 hP9 hb9 hal hbl hpl hql
  have SK := Lib.hid (fun W (h : Kept [] w11 W) => And.intro (hP11.kept0 h).rangeOf (And.intro (hA11.kept0 h).rangeOf (And.intro (hB11.kept0 h).rangeOf (hY11.kept0 h).rangeOf)))
  have HB := Lib.hid (fun W (h : Kept [] w11 W) => hb11.kept0 h)
  clear hA11 hB11 hP11 hb11 hY11
  obtain ⟨Y, hY⟩ : ∃ Y, Y = aesBlock (aesWords key) x := ⟨_, rfl⟩
  rw [← hY] at HX Hsy SK ⊢
  have HY := Lib.hid hY
  clear hY Hzy Hzs Hsl
  have heq : ∀ W, (Op.equalIn 10000 24 (.agg (bvs Y).toArray) (.agg (bvs Y).toArray)).run Try.prog W = .ok true W := fun W => by
    have h := run_eq16 Y Y HX.out HX.out W
    rwa [beq_self_eq_true] at h
  go_wp2
  have hHeld := SK.out _ (Kept.refl [] w11).drew
  refine wp_region_begin (fun w' => w'.rangeAt p 0 (bvs sbox) ∧ w'.rangeAt a 0 (bvs key) ∧ w'.rangeAt b 0 (bvs x) ∧ w'.rangeAt y 0 (bvs Y)) (by kernel_rfl) ?_
  refine held_load 0 rfl (by kernel_rfl) (by kernel_rfl) (by kernel_rfl) rfl 24 (.tmp 7) rfl y 0 rfl (bvs Y) _ (fun w h => h.2.2.2) arr16b rfl Hsy.out hHeld ?_
  refine held_load 1 rfl (by kernel_rfl) (by kernel_rfl) (by kernel_rfl) rfl 26 (.tmp 5) rfl p 0 rfl (bvs sbox) _ (fun w h => h.1) arr256b rfl Hszs.out hHeld ?_
  refine held_load 2 rfl (by kernel_rfl) (by kernel_rfl) (by kernel_rfl) rfl 26 (.tmp 5) rfl p 0 rfl (bvs sbox) _ (fun w h => h.1) arr256b rfl Hszs.out hHeld ?_
  refine held_load 3 rfl (by kernel_rfl) (by kernel_rfl) (by kernel_rfl) rfl 23 (.tmp 2) rfl a 0 rfl (bvs key) _ (fun w h => h.2.1) arrKey rfl Hsk.out hHeld ?_
  refine held_load 5 rfl (by kernel_rfl) (by kernel_rfl) (by kernel_rfl) rfl 24 (.tmp 3) rfl b 0 rfl (bvs x) _ (fun w h => h.2.2.1) arr16b rfl Hsx.out hHeld ?_
  simp only [Act.put, List.setIfInBounds_toArray]
  refine held_one 4 (by kernel_rfl) rfl ?_
  go_wp2_with fail
  refine (words5_any key _ Hkl.out).mono ?_
  rintro e w12 ⟨g, rfl, hG12, hk12⟩
  have hK12 := (Kept.refl [] w11).drew.andThen hk12
  clear hk12 hHeld
  go_wp2
  change _ ∧ wpAnyH _ _ _ _ _ _ _ _ _
  refine ⟨SK.out _ hK12, ?_⟩
  refine held_one 6 (by kernel_rfl) rfl ?_
  go_wp2_with fail
  refine (HRB.out g (aesWords key) x _ hG12 HKl.out Hxl.out).mono ?_
  rw [← HY.out]
  rintro e w13 ⟨rfl, hk13⟩
  have hK13 := hK12.andThen hk13
  clear hk13 hK12 hG12
  go_wp2
  change _ ∧ wpAnyH _ _ _ _ _ _ _ _ _
  refine ⟨SK.out _ hK13, ?_⟩
  refine held_one 7 (by kernel_rfl) rfl ?_
  go_wp2
  change _ ∧ wpAnyH _ _ _ _ _ _ _ _ _
  refine ⟨SK.out _ hK13, ?_⟩
  refine held_one 8 (by kernel_rfl) rfl ?_
  go_wp2
  change _ ∧ wpAnyH _ _ _ _ _ _ _ _ _
  have hHeld := SK.out _ hK13
  refine ⟨hHeld, ?_⟩
  refine held_pure 9 (.pointer (some ⟨q, 0, none⟩)) rfl (by kernel_rfl) (by kernel_rfl) (by kernel_rfl) rfl (fun w _ => rfl) hHeld ?_
  refine held_load 10 rfl (by kernel_rfl) (by kernel_rfl) (by kernel_rfl) rfl 24 (.tmp 3) rfl b 0 rfl (bvs x) _ (fun w h => h.2.2.1) arr16b rfl Hsx.out hHeld ?_
  refine held_load 12 rfl (by kernel_rfl) (by kernel_rfl) (by kernel_rfl) rfl 24 (.tmp 7) rfl y 0 rfl (bvs Y) _ (fun w h => h.2.2.2) arr16b rfl Hsy.out hHeld ?_
  simp only [Act.put, List.setIfInBounds_toArray]
  have hb13 := HB.out _ hK13
  refine held_one 11 (by kernel_rfl) rfl ?_
  go_wp2_with fail
  refine (block5_any q (aesWords key) x _ hb13 Hxl.out).mono ?_
  rw [← HY.out]
  rintro e w14 ⟨rfl, hk14⟩
  have hK14 := hK13.andThen hk14
  clear hk14 hK13 hb13 hHeld
  go_wp2
  change _ ∧ wpAnyH _ _ _ _ _ _ _ _ _
  refine ⟨SK.out _ hK14, ?_⟩
  refine held_one 13 (by kernel_rfl) rfl ?_
  go_wp2
  change _ ∧ wpAnyH _ _ _ _ _ _ _ _ _
  refine ⟨SK.out _ hK14, ?_⟩
  refine held_one 14 (by kernel_rfl) rfl ?_
  go_wp2
  change _ ∧ wpAnyH _ _ _ _ _ _ _ _ _
  refine ⟨SK.out _ hK14, ?_⟩
  refine held_one 15 (by kernel_rfl) rfl ?_
  go_wp2
  change _ ∧ wpAnyH _ _ _ _ _ _ _ _ _
  refine ⟨SK.out _ hK14, ?_⟩
  refine held_done (by kernel_rfl) ?_
  go_wp2
  go_ret
  exact ⟨rfl, hK11.andThen hK14⟩
end Go.Proofs.Yticjdmdbjhbddaa
