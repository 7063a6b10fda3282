/-
  Contracts of layer 3 (hmac): the tag of parts, and Tag. No statement of the seed is proved here.
-/
import Derived.Test.YtckffideobjlfaaDoorHm2
import Derived.Test.YtckffideobjlfaaDoorReg
import Derived.Deep.Cut
import Derived.StillTailTactics
namespace Go.Proofs.YtckffideobjlfaaDoor
open Go.RowKit
set_option linter.unusedVariables false

theorem RdL.two {w : World} {A1 A2 : Option Addr} {n1 n2 c1 c2 : Nat} {b1 b2 : List UInt8} (e : TypeId) (h1 : RdB w A1 n1 c1 b1) (h2 : RdB w A2 n2 c2 b2) :
    RdL (w.alloc (.cells #[.slice A1 n1 c1, .slice A2 n2 c2] e)) (some ⟨w.heap.size, 0, none⟩) 2 2 [b1, b2] := by
  refine ⟨rfl, Nat.le_refl _, by simp [maxLen], fun _ => ⟨w.heap.size, 0, rfl, by simp, fun j hj => ?_⟩⟩
  have hj3 : j = 0 ∨ j = 1 := by simp at hj; omega
  rcases hj3 with rfl | rfl
  · exact ⟨A1, n1, c1, by rw [cell_of_row _ _ _ _ _ _ (heap_alloc_new w _)]; rfl, h1.alloc _⟩
  · exact ⟨A2, n2, c2, by rw [cell_of_row _ _ _ _ _ _ (heap_alloc_new w _)]; rfl, h2.alloc _⟩
abbrev ptr (g : Nat) : Value := .pointer (some ⟨g, 0, none⟩)
/-- What holds while both turned keys are made, whatever was made first. -/
def TagI (A A' : Option Addr) (n c n' c' : Nat) (key : List UInt8) (g4 g5 : Nat) (w5 : World) (listed : Array Bool) (a : Act) (w : World) : Prop :=
  ∃ (b0 b1 b2 b3 b4 b5 b6 b7 : Bool) (v6 v7 v11 v12 v13 v14 : Value), listed = #[b0, b1, b2, b3, b4, b5, b6, b7] ∧
    a = { tmps := #[.slice A n c, .slice A' n' c', undef, undef, ptr g4, ptr g5, v6, v7, undef, .slice A n c, .agg (bvs (hkey key)).toArray, v11, v12, v13, v14, undef, undef, undef, undef, undef, undef, undef, undef, undef], defers := [] } ∧
    (b0 = true → v11 = .agg (bvs (hkey key)).toArray) ∧ (b1 = true → v12 = .agg (bvs (hx 54 (hkey key))).toArray) ∧
    (b2 = true → v13 = .agg (bvs (hkey key)).toArray) ∧ (b3 = true → v14 = .agg (bvs (hx 92 (hkey key))).toArray) ∧
    (b4 = true → ∃ g, v6 = ptr g ∧ w5.heap.size ≤ g ∧ Blk w g 60 (if b6 then bvs (hx 54 (hkey key)) else zb 64)) ∧
    (b5 = true → ∃ g, v7 = ptr g ∧ w5.heap.size ≤ g ∧ Blk w g 60 (if b7 then bvs (hx 92 (hkey key)) else zb 64)) ∧
    (b6 = true → b4 = true) ∧ (b7 = true → b5 = true) ∧ (b4 = true → b5 = true → v6 ≠ v7) ∧ Kept [] w5 w

set_option maxRecDepth 100000 in
set_option maxHeartbeats 4000000 in
theorem tag_any (A A' : Option Addr) (n c n' c' : Nat) (key : List UInt8) (ls : List (List UInt8)) (w : World) (hr : RdB w A n c key) (hp : RdL w A' n' c' ls) (hgl : Glob w) (hL : n < 1099511600000) (hM : ls.flatten.length < 1099511000000) (hn : n' < 1000000000) :
    Calls Tryd.prog 25 #[.slice A n c, .slice A' n' c'] w (KeyRet (hTag key ls.flatten) w) := by
  have h64 := hkey_length key
  go_enter Tryd.func25, Tryd.ntmps25
  go_wp2_with (with_reducible change wpList _ _ _ (⟨_, Op.alloc _, _, _, _, _⟩ :: _) _ _; refine wpList_alloc_blk rfl 25 rfl _ zero32 ?_)
  intro w1 hR1 hk1 hs1
  obtain ⟨g4, hg4⟩ : ∃ g4, g4 = w.heap.size := ⟨_, rfl⟩
  rw [← hg4] at hR1 ⊢
  have hw4 : w.heap.size ≤ g4 := by omega
  clear hs1 hg4
  go_wp2_with fail
  refine (filled_any A n c key _ (hr.kept0 hk1) (hgl.kept0 hk1) hL).mono ?_
  rintro e w2 ⟨rfl, hk2⟩
  have hK2 := hk1.andThen hk2
  have hR2 := hR1.kept0 hk2
  clear hk1 hk2 hR1
  go_wp2_with (with_reducible change wpList _ _ _ (⟨_, Op.alloc _, _, _, _, _⟩ :: _) _ _; refine wpList_alloc_blk rfl 60 rfl _ zero64k ?_)
  intro w3 hB3 hk3 hs3
  obtain ⟨g5, hg5⟩ : ∃ g5, g5 = w2.heap.size := ⟨_, rfl⟩
  rw [← hg5] at hB3 ⊢
  have hw5 : w.heap.size ≤ g5 := by have := hK2.size; omega
  have h45 : g4 ≠ g5 := by have := hR2.lt; omega
  clear hs3 hg5
  go_wp2_with (with_reducible change wpList _ _ _ (⟨_, Op.store _ _ _, _, _, _, _⟩ :: _) _ _; refine wpList_store_blk rfl 60 (.tmp 5) (.tmp 10) rfl g5 (bvs (hkey key)) rfl rfl 60 (zb 64) hB3 (size_of_len size64k h64) (zb_len h64) (bvs_one _) ?_)
  intro w5 hB5 hk5 hs5
  have hK5 : Kept [] w w5 := (hK2.andThen hk3).trans hk5 (by simp; omega)
  have hR5 := (hR2.kept0 hk3).kept hk5 (by simp; exact h45)
  clear hK2 hR2 hB3 hk3 hk5 hs5
  go_upto_region 2 with fail
  have hm : Tryd.prog.follows .mixedOrders = true := by kernel_rfl
  refine wp_region_inv hm (TagI A A' n c n' c' key g4 g5 w5) ?_ ?_ ?_
  · exact ⟨false, false, false, false, false, false, false, false, undef, undef, undef, undef, undef, undef, rfl, rfl, by simp, by simp, by simp, by simp, by simp, by simp, by simp, by simp, by simp, (Kept.refl [] w5).drew⟩
  · rintro listed a wc ⟨b0, b1, b2, b3, b4, b5, b6, b7, v6, v7, v11, v12, v13, v14, rfl, rfl, i0, i1, i2, i3, i4, i5, i6, i7, i8, hK⟩ i o ho hi
    have hlt := (ready_mem hi).1
    have hi8 : i = 0 ∨ i = 1 ∨ i = 2 ∨ i = 3 ∨ i = 4 ∨ i = 5 ∨ i = 6 ∨ i = 7 := by simp at hlt; omega
    rcases hi8 with rfl | rfl | rfl | rfl | rfl | rfl | rfl | rfl
    · cases ho
      refine wpList_load_blk rfl 60 (.tmp 5) rfl g5 rfl 60 _ _ (hB5.kept0 hK) arr64k rfl (size_of_len size64k h64) ?_
      exact ⟨true, b1, b2, b3, b4, b5, b6, b7, v6, v7, _, v12, v13, v14, rfl, rfl, fun _ => rfl, i1, i2, i3, i4, i5, i6, i7, i8, hK⟩
    · have hb0 : b0 = true := by clear ho i0 i1 i2 i3 i4 i5 i6 i7 i8 hlt; revert b0 b1 b2 b3 b4 b5 b6 b7; decide +kernel
      obtain rfl := i0 hb0
      cases ho
      go_wp2_with fail
      refine (mixed_any (hkey key) 54 _ _ rfl h64).mono ?_
      rintro e w6 ⟨rfl, hk6⟩
      go_wp2
      exact ⟨b0, true, b2, b3, b4, b5, b6, b7, v6, v7, _, _, v13, v14, rfl, rfl, fun _ => rfl, fun _ => rfl, i2, i3, fun h => (i4 h).imp fun g hg => ⟨hg.1, hg.2.1, hg.2.2.kept0 hk6⟩, fun h => (i5 h).imp fun g hg => ⟨hg.1, hg.2.1, hg.2.2.kept0 hk6⟩, i6, i7, i8, hK.andThen hk6⟩
    · cases ho
      refine wpList_load_blk rfl 60 (.tmp 5) rfl g5 rfl 60 _ _ (hB5.kept0 hK) arr64k rfl (size_of_len size64k h64) ?_
      exact ⟨b0, b1, true, b3, b4, b5, b6, b7, v6, v7, v11, v12, _, v14, rfl, rfl, i0, i1, fun _ => rfl, i3, i4, i5, i6, i7, i8, hK⟩
    · have hb2 : b2 = true := by clear ho i0 i1 i2 i3 i4 i5 i6 i7 i8 hlt; revert b0 b1 b2 b3 b4 b5 b6 b7; decide +kernel
      obtain rfl := i2 hb2
      cases ho
      go_wp2_with fail
      refine (mixed_any (hkey key) 92 _ _ rfl h64).mono ?_
      rintro e w6 ⟨rfl, hk6⟩
      go_wp2
      exact ⟨b0, b1, b2, true, b4, b5, b6, b7, v6, v7, v11, v12, _, _, rfl, rfl, i0, i1, fun _ => rfl, fun _ => rfl, fun h => (i4 h).imp fun g hg => ⟨hg.1, hg.2.1, hg.2.2.kept0 hk6⟩, fun h => (i5 h).imp fun g hg => ⟨hg.1, hg.2.1, hg.2.2.kept0 hk6⟩, i6, i7, i8, hK.andThen hk6⟩
    · have hb4 : b4 = false := by clear ho i0 i1 i2 i3 i4 i5 i6 i7 i8 hlt; revert b0 b1 b2 b3 b4 b5 b6 b7; decide +kernel
      have hb6 : b6 = false := by cases b6; rfl; rw [i6 rfl] at hb4; cases hb4
      subst hb4 hb6
      cases ho
      refine wpList_alloc_blk rfl 60 rfl _ zero64k ?_
      intro w6 hN hk6 hs6
      exact ⟨b0, b1, b2, b3, true, b5, false, b7, _, v7, v11, v12, v13, v14, rfl, rfl, i0, i1, i2, i3, fun _ => ⟨wc.heap.size, rfl, hK.size, hN⟩, fun h => (i5 h).imp fun g hg => ⟨hg.1, hg.2.1, hg.2.2.kept0 hk6⟩, fun _ => rfl, i7, fun _ h => by
        obtain ⟨g, rfl, _, hg⟩ := i5 h
        have := hg.lt
        intro e
        injection e with e; injection e with e; injection e with e
        omega, hK.andThen hk6⟩
    · have hb5 : b5 = false := by clear ho i0 i1 i2 i3 i4 i5 i6 i7 i8 hlt; revert b0 b1 b2 b3 b4 b5 b6 b7; decide +kernel
      have hb7 : b7 = false := by cases b7; rfl; rw [i7 rfl] at hb5; cases hb5
      subst hb5 hb7
      cases ho
      refine wpList_alloc_blk rfl 60 rfl _ zero64k ?_
      intro w6 hN hk6 hs6
      exact ⟨b0, b1, b2, b3, b4, true, b6, false, v6, _, v11, v12, v13, v14, rfl, rfl, i0, i1, i2, i3, fun h => (i4 h).imp fun g hg => ⟨hg.1, hg.2.1, hg.2.2.kept0 hk6⟩, fun _ => ⟨wc.heap.size, rfl, hK.size, hN⟩, i6, fun _ => rfl, fun h _ => by
        obtain ⟨g, rfl, _, hg⟩ := i4 h
        have := hg.lt
        intro e
        injection e with e; injection e with e; injection e with e
        omega, hK.andThen hk6⟩
    · obtain ⟨hb1, hb4, hb6⟩ : b1 = true ∧ b4 = true ∧ b6 = false := by clear ho i0 i1 i2 i3 i4 i5 i6 i7 i8 hlt; revert b0 b1 b2 b3 b4 b5 b6 b7; decide +kernel
      obtain rfl := i1 hb1
      obtain ⟨g, rfl, hg, hN⟩ := i4 hb4
      subst hb6
      cases ho
      refine wpList_store_blk rfl 60 (.tmp 6) (.tmp 12) rfl g _ rfl rfl 60 (zb 64) hN (size_of_len size64k (hxk_length _ _)) (zb_len (hxk_length _ _)) (bvs_one _) ?_
      intro w6 hN6 hk6 hs6
      exact ⟨b0, b1, b2, b3, b4, b5, true, b7, _, v7, v11, _, v13, v14, rfl, rfl, i0, fun _ => rfl, i2, i3, fun _ => ⟨g, rfl, hg, hN6⟩, fun h => by
        obtain ⟨g7, rfl, hg7, hN7⟩ := i5 h
        refine ⟨g7, rfl, hg7, hN7.kept hk6 ?_⟩
        have hne := i8 hb4 h
        simp only [List.mem_singleton]
        rintro rfl
        exact hne rfl, fun _ => hb4, i7, i8, hK.trans hk6 (by simp; omega)⟩
    · obtain ⟨hb3, hb5, hb7⟩ : b3 = true ∧ b5 = true ∧ b7 = false := by clear ho i0 i1 i2 i3 i4 i5 i6 i7 i8 hlt; revert b0 b1 b2 b3 b4 b5 b6 b7; decide +kernel
      obtain rfl := i3 hb3
      obtain ⟨g, rfl, hg, hN⟩ := i5 hb5
      subst hb7
      cases ho
      refine wpList_store_blk rfl 60 (.tmp 7) (.tmp 14) rfl g _ rfl rfl 60 (zb 64) hN (size_of_len size64k (hxk_length _ _)) (zb_len (hxk_length _ _)) (bvs_one _) ?_
      intro w6 hN6 hk6 hs6
      exact ⟨b0, b1, b2, b3, b4, b5, b6, true, v6, _, v11, v12, v13, _, rfl, rfl, i0, i1, i2, fun _ => rfl, fun h => by
        obtain ⟨g7, rfl, hg7, hN7⟩ := i4 h
        refine ⟨g7, rfl, hg7, hN7.kept hk6 ?_⟩
        have hne := i8 h hb5
        simp only [List.mem_singleton]
        rintro rfl
        exact hne rfl, fun _ => ⟨g, rfl, hg, hN6⟩, i6, fun _ => hb5, i8, hK.trans hk6 (by simp; omega)⟩
  · rintro listed a wc he ⟨b0, b1, b2, b3, b4, b5, b6, b7, v6, v7, v11, v12, v13, v14, rfl, rfl, i0, i1, i2, i3, i4, i5, i6, i7, i8, hK⟩
    have hall : (b0 && b1 && b2 && b3 && b4 && b5 && b6 && b7) = true := by
      have he2 := congrArg List.isEmpty he
      rw [List.isEmpty_nil] at he2
      clear i0 i1 i2 i3 i4 i5 i6 i7 i8 he; revert b0 b1 b2 b3 b4 b5 b6 b7; decide +kernel
    simp only [Bool.and_eq_true] at hall
    obtain ⟨⟨⟨⟨⟨⟨⟨rfl, rfl⟩, rfl⟩, rfl⟩, rfl⟩, rfl⟩, rfl⟩, rfl⟩ := hall
    obtain rfl := i0 rfl
    obtain rfl := i1 rfl
    obtain rfl := i2 rfl
    obtain rfl := i3 rfl
    obtain ⟨g6, rfl, hg6, hN6⟩ := i4 rfl
    obtain ⟨g7, rfl, hg7, hN7⟩ := i5 rfl
    rw [if_pos rfl] at hN6 hN7
    have hKw := hK5.andThen hK
    have hRw := hR5.kept0 hK
    have hn4 : g4 < w5.heap.size := hR5.lt
    clear i0 i1 i2 i3 i4 i5 i6 i7 i8 he hm
    have hpw := hp.kept0 hKw
    have hgw := hgl.kept0 hKw
    obtain ⟨vs, hv, htx⟩ := hpw.vals
    obtain ⟨i0, hi, hz0, hz1, hz2⟩ := info_parts infoB
    have hcutB := fun g => run_cut_all (P := Tryd.prog) 60 5 64 g 0 arr64k size1b (by omega)
    have hcutK := fun g => run_cut_all (P := Tryd.prog) 25 5 32 g 0 arr32b size1b (by omega)
    have Htx := Lib.hid htx
    have Hv := Lib.hid hv
    clear hv htx hp hr hpw hK5 hR5 hB5
    go_wp2_with (at_builtin; refine wpList_append_vals rfl (.tmp 16) (.tmp 17) 56 rfl 22 i0 _ 24 Tryd.underlying56 hi hz0 hz1 hz2 rfl (.slice (some ⟨wc.heap.size, 0, none⟩) 1 1) [.slice (some ⟨g6, 0, none⟩) 64 64] rfl (World.ownsRow_lit (base := 0) (size := 1) wc #[.slice (some ⟨g6, 0, none⟩) 64 64] 1 (Nat.zero_le _) (by simp [maxLen]) rfl) A' n' c' vs rfl (Hv.out.kept0 ((Kept.refl [] wc).alloc _)) Htx.out.cells (by simp [maxLen]; omega) (by simp; omega) ?_)
    intro v8 w8 ho8 hk8 hm8
    have hA : Kept [] wc (wc.alloc (.cells #[.slice (some ⟨g6, 0, none⟩) 64 64] 22)) := (Kept.refl [] wc).alloc _
    obtain ⟨hK8, hb8⟩ := app_new hA (by intro g hg; simp [Value.ownBlock] at hg; omega) hk8 hm8
    obtain ⟨A8, n8, c8, rfl, hr8, _⟩ := ho8.form
    have hT6 : TxtV w8 (.slice (some ⟨g6, 0, none⟩) 64 64) (hx 54 (hkey key)) := ⟨_, _, _, rfl, ((hN6.all 64 (hxk_length _ _) (by omega)).kept0 hK8)⟩
    have hL8 : RdL w8 A8 n8 c8 ([hx 54 (hkey key)] ++ ls) := RdL.of_vals hr8 ((TxtVs.one hT6).append (Htx.out.kept0 hK8))
    have hfl : ([hx 54 (hkey key)] ++ ls).flatten = hx 54 (hkey key) ++ ls.flatten := by simp
    have Hfl := Lib.hid hfl
    have hfn : ([hx 54 (hkey key)] ++ ls).flatten.length < 1099511600000 := by rw [hfl, List.length_append, hxk_length]; omega
    have hg8 := hgw.kept0 hK8
    have hN78 := hN7.kept0 hK8
    have hR8 := hRw.kept0 hK8
    have hKw8 := hKw.andThen hK8
    clear hA hk8 hm8 ho8 hr8 hT6 hfl Htx Hv hgw hN7 hN6 hRw hKw hK hb8
    go_wp2_with fail
    refine (sums_any A8 n8 c8 _ _ hL8 hg8 hfn).mono ?_
    rw [Hfl.out]
    rintro e w9 ⟨rfl, hk9⟩
    have hg9 := hg8.kept0 hk9
    have hN79 := hN78.kept0 hk9
    have hR9 := hR8.kept0 hk9
    have hKw9 := hKw8.andThen hk9
    clear hL8 hfn hg8 hN78 hR8 hKw8 hk9 Hfl
    have hd9 := shaSum_length (hx 54 (hkey key) ++ ls.flatten)
    have HT := Lib.hid (hTag_eq key ls.flatten)
    generalize shaSum (hx 54 (hkey key) ++ ls.flatten) = dg at *
    go_wp2_with (with_reducible change wpList _ _ _ (⟨_, Op.alloc _, _, _, _, _⟩ :: _) _ _; refine wpList_alloc_blk rfl 25 rfl _ zero32 ?_)
    intro w10 hD10 hk10 hs10
    obtain ⟨g8, hg8⟩ : ∃ g8, g8 = w9.heap.size := ⟨_, rfl⟩
    rw [← hg8] at hD10 ⊢
    have hn48 : g4 ≠ g8 := by have := hR9.lt; omega
    have hn78 : g7 ≠ g8 := by have := hN79.lt; omega
    have hw8 : w.heap.size ≤ g8 := by have := hKw9.size; omega
    clear hs10 hg8
    go_wp2_with (with_reducible change wpList _ _ _ (⟨_, Op.store _ _ _, _, _, _, _⟩ :: _) _ _; refine wpList_store_blk rfl 25 (.tmp 8) (.tmp 19) rfl g8 (bvs dg) rfl rfl 25 (zb 32) hD10 (size_of_len size32 hd9) (zb_len hd9) (bvs_one _) ?_)
    intro w11 hD11 hk11 hs11
    have hN11 := (hN79.kept0 hk10).kept hk11 (by simpa using hn78)
    have hR11 := (hR9.kept0 hk10).kept hk11 (by simpa using hn48)
    have hK11 : Kept [] w w11 := (hKw9.andThen hk10).trans hk11 (by simp; omega)
    have hg11 := hgl.kept0 hK11
    have hS7 := (hN11.all 64 (hxk_length _ _) (by omega)).drew
    have hS8 := (hD11.all 32 hd9 (by omega)).drew
    have hg12 : Glob w11.drew := hg11
    have hR12 := hR11.drew
    have hK12 := hK11.drew
    clear hg9 hN79 hR9 hKw9 hD10 hk10 hg11 hN11 hD11 hR11 hK11 hk11 hgl
    go_wp2
    go_still_tail 2, (by kernel_rfl)
    change wpList _ _ _ _ _ w11.drew
    generalize w11.drew = w12 at *
    have hA : Kept [] w12 (w12.alloc (.cells #[.slice (some ⟨g7, 0, none⟩) 64 64, .slice (some ⟨g8, 0, none⟩) 32 32] 22)) := (Kept.refl [] w12).alloc _
    have hL12 := RdL.two 22 hS7 hS8
    have hfl : [hx 92 (hkey key), dg].flatten = hx 92 (hkey key) ++ dg := by simp
    have hfn : [hx 92 (hkey key), dg].flatten.length < 1099511600000 := by rw [hfl, List.length_append, hxk_length]; omega
    have Hfl := Lib.hid hfl
    have HA := Lib.hid hA
    clear hfl hA
    go_wp2_with fail
    refine (sums_any _ 2 2 _ _ hL12 (hg12.kept0 HA.out) hfn).mono ?_
    rw [Hfl.out, ← HT.out]
    rintro e w13 ⟨rfl, hk13⟩
    have hR13 := (hR12.kept0 HA.out).kept0 hk13
    have hK13 := (hK12.andThen HA.out).andThen hk13
    have ht := hTag_length key ls.flatten
    clear hR12 hK12 HA hk13 hL12 hS7 hS8 Hfl HT hfn
    go_wp2_with (with_reducible change wpList _ _ _ (⟨_, Op.store _ _ _, _, _, _, _⟩ :: _) _ _; refine wpList_store_blk rfl 25 (.tmp 4) (.tmp 23) rfl g4 (bvs (hTag key ls.flatten)) rfl rfl 25 (zb 32) hR13 (size_of_len size32 ht) (zb_len ht) (bvs_one _) ?_)
    intro w14 hR14 hk14 hs14
    go_wp2
    refine bodyPost_ret (results_blk rfl _ g4 25 _ _ rfl hR14 Tryd.underlying25 rfl (size_of_len size32 ht)) rfl ?_
    exact ⟨rfl, hK13.trans hk14 (by simp; omega)⟩

theorem hTagF_any (A A' : Option Addr) (n c n' c' : Nat) (key text : List UInt8) (w : World) (hr : RdB w A n c key) (hp : RdB w A' n' c' text) (hgl : Glob w) (hL : n < 1099511600000) (hM : n' < 1099511000000) :
    Calls Tryd.prog 14 #[.slice A n c, .slice A' n' c'] w (KeyRet (hTag key text) w) := by
  have hl := hp.len
  have hfl : [text].flatten = text := by simp
  have ht := hTag_length key text
  go_enter Tryd.func14, Tryd.ntmps14
  go_wp2_with (with_reducible change wpList _ _ _ (⟨_, Op.alloc _, _, _, _, _⟩ :: _) _ _; refine wpList_alloc_blk rfl 25 rfl _ zero32 ?_)
  intro w1 hR1 hk1 hs1
  have hp1 := RdL.one 22 (hp.kept0 hk1)
  have ha : Kept [] w1 (w1.alloc (.cells #[.slice A' n' c'] 22)) := (Kept.refl [] w1).alloc _
  have HA := Lib.hid ha
  have Hfl := Lib.hid hfl
  clear ha hfl
  go_wp2_with fail
  refine (tag_any A _ n c 1 1 key [text] _ ((hr.kept0 hk1).kept0 HA.out) (by rw [← hs1]; exact hp1) ((hgl.kept0 hk1).kept0 HA.out) hL (by rw [Hfl.out]; omega) (by omega)).mono ?_
  rw [Hfl.out]
  rintro e w2 ⟨rfl, hk2⟩
  have hR2 := (hR1.kept0 HA.out).kept0 hk2
  have hK2 := (hk1.andThen HA.out).andThen hk2
  clear HA hp1 hR1 hk1 hk2
  go_wp2_with (with_reducible change wpList _ _ _ (⟨_, Op.store _ _ _, _, _, _, _⟩ :: _) _ _; refine wpList_store_blk rfl 25 (.tmp 4) (.tmp 8) rfl w.heap.size (bvs (hTag key text)) rfl rfl 25 (zb 32) hR2 (size_of_len size32 ht) (zb_len ht) (bvs_one _) ?_)
  intro w3 hR3 hk3 hs3
  go_wp2
  refine bodyPost_ret (results_blk rfl _ w.heap.size 25 _ _ rfl hR3 Tryd.underlying25 rfl (size_of_len size32 ht)) rfl ?_
  exact ⟨rfl, hK2.trans hk3 (by simp)⟩
end Go.Proofs.YtckffideobjlfaaDoor
