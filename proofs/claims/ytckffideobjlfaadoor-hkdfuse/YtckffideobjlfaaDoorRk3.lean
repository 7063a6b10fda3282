/-
  Contract of the document's own answer for layer 4: a use's key. No statement of the seed is proved here.
-/
import Derived.Test.YtckffideobjlfaaDoorHk5
namespace Go.Proofs.YtckffideobjlfaaDoor
open Go.RowKit
set_option linter.unusedVariables false

set_option maxRecDepth 100000 in
set_option maxHeartbeats 4000000 in
theorem rUse_any (key : List UInt8) (s : ByteArray) (gen : Int) (w : World) (hkl : key.length = 32) (hs : s.size ≤ 1000) (hg0 : -9223372036854775808 ≤ gen) (hg1 : gen ≤ 9223372036854775807) :
    Calls Tryd.prog 13 #[.agg (bvs key).toArray, .string s, .int .i64 gen] w (UseRet (useK key (strL s) gen) (useE (strL s) gen) w) := by
  obtain ⟨i0, hi0, hz0, hz1, hz2⟩ := info_parts u8info
  have hB := Blk.new w 25 (bvs key)
  have hK1 : Kept [] w (w.alloc (.cells (bvs key).toArray 25)) := (Kept.refl [] w).alloc _
  have hs1 : (w.alloc (.cells (bvs key).toArray 25)).heap.size = w.heap.size + 1 := by simp
  have Hkl := Lib.hid hkl
  go_enter Tryd.func13, Tryd.ntmps13
  go_wp2_with (first
    | (with_reducible change wpList _ _ _ (⟨_, Op.box _ _, _, _, _, _⟩ :: _) _ _; refine Great.wpList_boxTo rfl 25 _ rfl _ rfl w.heap.size rfl (bvs key).toArray rfl ?_; generalize w.alloc (.cells (bvs key).toArray 25) = w1 at *)
    | (with_reducible change wpList _ _ _ (⟨_, Op.alloc _, _, _, _, _⟩ :: _) _ _; refine wpList_alloc_blk rfl 25 rfl _ zero32 ?_))
  intro w2 hR2 hk2 hs2
  have hB2 := hB.kept0 hk2
  have hK2 := hK1.andThen hk2
  obtain ⟨g3, hg3⟩ : ∃ g, g = w.heap.size := ⟨_, rfl⟩
  obtain ⟨g6, hg6⟩ : ∃ g, g = w.heap.size + 1 := ⟨_, rfl⟩
  rw [← hg6] at hR2 ⊢
  rw [← hg3] at hB2 ⊢
  have hw3 : w.heap.size ≤ g3 := by omega
  have hw6 : w.heap.size ≤ g6 := by omega
  have h36 : g3 ≠ g6 := by omega
  clear hB hK1 hk2 hs2 hs1 hg3 hg6 hkl
  go_wp2_with fail
  refine (rNamed_any s _ hs).mono ?_
  rintro e w4 ⟨rfl, rfl⟩
  obtain ⟨q, hq⟩ : ∃ q, q = nameOk (strL s) := ⟨_, rfl⟩
  cases q
  · have HU : Hid (useK key (strL s) gen = List.replicate 32 0 ∧ useE (strL s) gen = 5) := Lib.hid (by unfold useK useE; rw [← hq]; simp)
    rw [← hq]
    clear hq
    go_wp2_with (first
      | (with_reducible change wpList _ _ _ (⟨_, Op.build _ _, _, _, _, _⟩ :: _) _ _; refine wpList_buildTo rfl 25 _ rfl _ rfl (zb 32).toArray (by simpa [Act.eval, Act.put] using builtKey) ?_)
      | (with_reducible change wpList _ _ _ (⟨_, Op.store _ _ _, _, _, _, _⟩ :: _) _ _; refine wpList_store_blk rfl 25 (.tmp 6) (.tmp 16) rfl g6 (zb 32) rfl rfl 25 (zb 32) hR2 zb_size rfl zb_one ?_))
    intro w5 hR5 hk5 hs5
    go_wp2
    refine bodyPost_ret (results_blk2 rfl _ g6 25 _ _ _ rfl rfl hR5 arr32b rfl zb_size) rfl ?_
    exact ⟨by rw [HU.out.1, HU.out.2]; rfl, hK2.trans hk5 (by simp; omega)⟩
  · have hq2 := Lib.hid hq
    have hpos : 0 < s.size := by
      rcases Nat.eq_zero_or_pos s.size with h | h
      · exfalso
        unfold nameOk at hq
        rw [strL_length, h] at hq
        simp at hq
      · exact h
    rw [← hq]
    clear hq
    by_cases hgen : 0 ≤ gen ∧ gen ≤ 4294967295
    · have HU : Hid (useK key (strL s) gen = hkE (hTag useSalt key) (useInfo (strL s) gen.toNat) 32 ∧ useE (strL s) gen = 0) := Lib.hid (by unfold useK useE; rw [← hq2.out, if_pos ⟨rfl, hgen⟩, if_pos rfl, if_pos hgen]; exact ⟨rfl, rfl⟩)
      obtain ⟨g0, g1⟩ := hgen
      have hwr : IntKind.u64.wrap gen = gen := by simp [IntKind.wrap, IntKind.bits, IntKind.signed]; omega
      have Hl := Lib.hid (strL_length s)
      clear hq2
      go_wp2_with (at_builtin; refine wpList_append_nil_str rfl (.tmp 24) (.tmp 25) 22 9 rfl 5 i0 Tryd.underlying22 Tryd.underlying9 hi0 hz0 hz2 rfl s rfl hpos (by omega) ?_)
      intro c3 w3 ho3 hk3 hs3
      obtain ⟨g8, hg8⟩ : ∃ g, g = w2.heap.size := ⟨_, rfl⟩
      rw [← hg8] at ho3 ⊢
      have Hb3 : Hid (∀ g, (Value.slice (some ⟨g8, 0, none⟩) s.size c3).ownBlock = some g → w2.heap.size ≤ g) := Lib.hid (by intro g hg; simp [Value.ownBlock] at hg; omega)
      have HR0 := Lib.hid (RdB.one w3 5 0 0 rfl)
      have HA : Hid (Kept [] w2 (w3.alloc (.cells #[.int .u8 0] 5))) := Lib.hid (hk3.alloc _)
      clear hg8 hs3 hk3
      go_wp2_with (at_builtin; refine wpList_append_bytes rfl (.tmp 27) (.tmp 28) 22 rfl 5 i0 _ 1 Tryd.underlying22 hi0 hz0 hz1 hz2 rfl (.slice (some ⟨g8, 0, none⟩) s.size c3) _ rfl (ho3.alloc _) _ 1 1 [0] rfl HR0.out (by rw [Hl.out]; simp only [maxLen]; omega) (by rw [Hl.out]; omega) ?_)
      intro v4 w4 ho4 hk4 hm4
      obtain ⟨hK4, hb4⟩ := app_new HA.out Hb3.out hk4 hm4
      obtain ⟨A4, n4, c4, rfl, _, _⟩ := ho4.form
      have Hb4 := Lib.hid hb4
      have hlt4 : ∀ g, (Value.slice A4 n4 c4).ownBlock = some g → g < w4.heap.size := by obtain ⟨_, _, _, _, _, hh⟩ := ho4.form; exact hh
      have Hlt4 := Lib.hid hlt4
      clear HR0 HA Hb3 ho3 hk4 hm4 hb4 hlt4
      go_wp2_with fail
      refine (rfBytes_any gen 4 _ (by omega) (by omega) (by omega)).mono ?_
      rintro e w5 ⟨v5, rfl, ho5, hk5, hb5⟩
      obtain ⟨A5, n5, c5, rfl, hr5, _⟩ := ho5.form
      have hn5 : n5 = 4 := by have := hr5.len; rw [be_length] at this; omega
      subst hn5
      have ho45 := ho4.kept0 hk5
      have HK5 := Lib.hid (hK4.andThen hk5)
      have HL4 : Hid ((strL s ++ [0]).length ≤ 1001) := Lib.hid (by rw [List.length_append, Hl.out]; simp; omega)
      clear hb5 ho5 hk5 ho4 hK4 hwr
      go_wp2_with (at_builtin; refine wpList_append_bytes rfl (.tmp 30) (.tmp 33) 22 rfl 5 i0 _ 1 Tryd.underlying22 hi0 hz0 hz1 hz2 rfl (.slice A4 n4 c4) _ rfl ho45 A5 4 c5 _ rfl hr5 (by have := HL4.out; simp only [maxLen]; omega) (by have := HL4.out; omega) ?_)
      intro v6 w6 ho6 hk6 hm6
      obtain ⟨hK6, _⟩ := app_new HK5.out Hb4.out hk6 hm6
      obtain ⟨A6, n6, c6, rfl, hr6, _⟩ := ho6.form
      have hr6' : RdB w6 A6 n6 c6 (useInfo (strL s) gen.toNat) := by unfold useInfo; simpa using hr6
      have hn6 : n6 ≤ 2000 := by have := hr6'.len; rw [useInfo_length, strL_length] at this; omega
      have hK6w := hK2.andThen hK6
      have hB6 := hB2.kept0 hK6
      have hR6 := hR2.kept0 hK6
      clear hr6 ho6 hk6 hm6 HK5 HL4 ho45 hr5 Hb4 Hlt4 hK6 hK2 hB2 hR2
      have kc := Lib.run_convert_bytes_const (P := Tryd.prog) w6 22 5 #[.int .u8 115, .int .u8 99, .int .u8 114, .int .u8 105, .int .u8 110, .int .u8 105, .int .u8 117, .int .u8 109] 8 8 Tryd.underlying22 Tryd.underlying5
      have R1 : Hid (RdB (w6.alloc (.cells #[.int .u8 115, .int .u8 99, .int .u8 114, .int .u8 105, .int .u8 110, .int .u8 105, .int .u8 117, .int .u8 109] 5 (8, 9))) (some ⟨w6.heap.size, 0, none⟩) 8 8 useSalt) := Lib.hid (RdB.marked w6 5 #[.int .u8 115, .int .u8 99, .int .u8 114, .int .u8 105, .int .u8 110, .int .u8 105, .int .u8 117, .int .u8 109] (8, 9) 8 useSalt rfl rfl (by simp [maxLen]))
      have K1 : Hid (Kept [] w6 (w6.alloc (.cells #[.int .u8 115, .int .u8 99, .int .u8 114, .int .u8 105, .int .u8 110, .int .u8 105, .int .u8 117, .int .u8 109] 5 (8, 9)))) := Lib.hid ((Kept.refl [] w6).alloc _)
      have HB7 := Lib.hid (hB6.kept0 K1.out)
      go_wp2_with (with_reducible change wpList _ _ _ (⟨_, Op.load _ _, _, _, _, _⟩ :: _) _ _; refine wpList_load_blk rfl 25 (.tmp 3) rfl g3 rfl 25 _ _ HB7.out arr32b rfl (size_of_len size32 Hkl.out) ?_)
      go_wp2_with fail
      refine (rBytes_any key _ Hkl.out).mono ?_
      rintro e w8 ⟨v8, rfl, ho8, hk8, hb8⟩
      obtain ⟨A8, n8, c8, rfl, hr8, _⟩ := ho8.form
      have hn8 : n8 = 32 := by have := hr8.len; have := Hkl.out; omega
      subst hn8
      have hkk := K1.out.andThen hk8
      have hK8 := hK6w.andThen hkk
      have hR8 := hR6.kept0 hkk
      have hi8 := hr6'.kept0 hkk
      have hs8 := R1.out.kept0 hk8
      clear kc R1 K1 HB7 ho8 hb8 hk8 hkk hK6w hB6 hR6 hr6'
      go_wp2_with fail
      refine (rX_any _ A8 8 8 32 c8 useSalt key _ hs8 hr8 (by omega) (by omega)).mono ?_
      rintro e w9 ⟨rfl, hk9⟩
      have hK9 := hK8.andThen hk9
      have hR9 := hR8.kept0 hk9
      have hi9 := hi8.kept0 hk9
      clear hK8 hR8 hi8 hs8 hr8 hk9
      go_wp2_with fail
      refine (rE_any (hTag useSalt key) (useInfo (strL s) gen.toNat) A6 n6 c6 32 _ (hTag_length _ _) hi9 (by omega) (by omega)).mono ?_
      rintro e w10 ⟨A10, n10, c10, rfl, hr10, hk10⟩
      have hn10 : n10 = 32 := by have := hr10.len; rw [hkE_length (by omega)] at this; omega
      subst hn10
      rw [← HU.out.1] at hr10
      have hK10 := hK9.andThen hk10
      have hR10 := hR9.kept0 hk10
      have Ht := Lib.hid (useK_length key (strL s) gen)
      have hcap10 := hr10.cap
      clear hK9 hR9 hi9 hk10
      go_wp2_with (first
        | (with_reducible change wpList _ _ _ (⟨_, Op.build _ _, _, _, _, _⟩ :: _) _ _; refine wpList_buildTo rfl 25 _ rfl _ rfl (zb 32).toArray (by simpa [Act.eval, Act.put] using builtKey) ?_)
        | (with_reducible change wpList _ _ _ (⟨_, Op.alloc _, _, _, _, _⟩ :: _) _ _; refine wpList_alloc_blk rfl 25 rfl _ zero32 ?_))
      intro w11 hG11 hk11 hs11
      obtain ⟨g11, hg11⟩ : ∃ g, g = w10.heap.size := ⟨_, rfl⟩
      rw [← hg11] at hG11 ⊢
      have hw11 : w.heap.size ≤ g11 := by have := hK10.size; omega
      have h611 : g6 ≠ g11 := by have := hR10.lt; omega
      have hoff : Hid (Off A10 [g11]) := Lib.hid (fun a ha hm => by
        have := List.mem_singleton.1 hm
        obtain ⟨b, off, e1, hlt, _⟩ := hr10.at_ (by omega)
        rw [ha] at e1
        injection e1 with e1
        rw [e1] at this
        simp at this
        omega)
      clear hg11 hs11
      go_wp2_with (with_reducible change wpList _ _ _ (⟨_, Op.store _ _ _, _, _, _, _⟩ :: _) _ _; refine wpList_store_blk rfl 25 (.tmp 11) (.tmp 45) rfl g11 (zb 32) rfl rfl 25 (zb 32) hG11 zb_size rfl zb_one ?_)
      intro w12 hG12 hk12 hs12
      have hK12 : Kept [] w w12 := (hK10.andThen hk11).trans hk12 (by simp; omega)
      have hR12 := (hR10.kept0 hk11).kept hk12 (by simpa using h611)
      have hr12 := (hr10.kept0 hk11).kept hk12 hoff.out
      generalize useK key (strL s) gen = K at *
      have hG12' : Blk w12 g11 25 (bvs (K.take 0 ++ List.replicate (32 - 0) 0)) := by simpa [zb] using hG12
      clear hG11 hk11 hk12 hs12 hG12 hK10 hR10 hr10
      go_wp2
      go_loopw [12] (fun i wr => ∃ k : Nat, k ≤ 32 ∧ i = .int .i64 k ∧ Blk wr g11 25 (bvs (K.take k ++ List.replicate (32 - k) 0)) ∧ RdB wr A10 32 c10 K ∧ Blk wr g6 25 (zb 32) ∧ Kept [] w wr) (fun i _ => 32 - (intOf i).toNat)
      case atStart => exact ⟨0, by omega, rfl, hG12', hr12, hR12, hK12⟩
      case round =>
        obtain ⟨k, hk, rfl, hG, hrk, hRk, hKk⟩ := hrel
        clear hG12' hr12 hR12 hK12
        by_cases hlt : k < 32
        · have hkl : (K.take k).length = k := by rw [List.length_take]; have := Ht.out; omega
          obtain ⟨bx, ox, y, rfl, cx, hy, _⟩ := hrk.byte hlt
          have c1 := hG.cellD k (by rw [bvs_length, List.length_append, hkl, List.length_replicate]; omega)
          generalize (bvs (K.take k ++ List.replicate (32 - k) 0))[k]'(by rw [bvs_length, List.length_append, hkl, List.length_replicate]; omega) = u at c1
          have f1 := hG.frz k
          have hnew := hG.set k (bcell y)
          have hse := set_mid (K.take k) (32 - k) y (by omega)
          rw [hkl] at hse
          have hnew2 : Blk (wr.setCell ⟨g11, k, none⟩ (.int .u8 (y.toNat : Int))) g11 25 (bvs (K.take (k + 1) ++ List.replicate (32 - (k + 1)) 0)) := by
            refine hnew.of_eq ?_
            rw [take_step K k y hy, ← Nat.sub_sub, ← hse]
            simp [bvs, List.map_set]
          have hkn : Kept [g11] wr (wr.setCell ⟨g11, k, none⟩ (.int .u8 (y.toNat : Int))) := (Kept.refl _ _).setCell (by simp) _
          have hrn := hrk.kept hkn hoff.out
          have hRn := hRk.kept hkn (by simpa using h611)
          have hKn : Kept [] w (wr.setCell ⟨g11, k, none⟩ (.int .u8 (y.toNat : Int))) := hKk.trans hkn (by simp; omega)
          clear hnew hse hkl hkn hy hG hrk hRk hKk
          go_wp2
          go_roundw
          case rel => exact ⟨k + 1, by omega, by go_num, hnew2, hrn, hRn, hKn⟩
          case measure => simp [intOf]; omega
        · obtain rfl : k = 32 := by omega
          have hG2 : Blk wr g11 25 (bvs K) := by
            refine hG.of_eq ?_
            rw [List.take_of_length_le (by have := Ht.out; omega)]; simp
          clear hG hrk
          go_wp2_with (first
            | (with_reducible change wpList _ _ _ (⟨_, Op.load _ _, _, _, _, _⟩ :: _) _ _; refine wpList_load_blk rfl 25 (.tmp 11) rfl g11 rfl 25 _ _ hG2 arr32b rfl (size_of_len size32 Ht.out) ?_)
            | (with_reducible change wpList _ _ _ (⟨_, Op.store _ _ _, _, _, _, _⟩ :: _) _ _; refine wpList_store_blk rfl 25 (.tmp 6) (.tmp 56) rfl g6 (bvs K) rfl rfl 25 (zb 32) hRk (size_of_len size32 Ht.out) (zb_len Ht.out) (bvs_one _) ?_))
          intro w14 hR14 hk14 hs14
          go_wp2
          refine bodyPost_ret (results_blk2 rfl _ g6 25 _ _ _ rfl rfl hR14 arr32b rfl (size_of_len size32 Ht.out)) rfl ?_
          exact ⟨by rw [HU.out.2]; rfl, hKk.trans hk14 (by simp; omega)⟩
    · have HU : Hid (useK key (strL s) gen = List.replicate 32 0 ∧ useE (strL s) gen = 14) := Lib.hid (by unfold useK useE; rw [← hq2.out, if_neg (fun h => hgen h.2), if_pos rfl, if_neg hgen]; exact ⟨rfl, rfl⟩)
      have hgc : gen < 0 ∨ 4294967295 < gen := by omega
      clear hq2 hgen
      rcases hgc with h0 | h0
      all_goals
        go_wp2_with (first
          | (with_reducible change wpList _ _ _ (⟨_, Op.build _ _, _, _, _, _⟩ :: _) _ _; refine wpList_buildTo rfl 25 _ rfl _ rfl (zb 32).toArray (by simpa [Act.eval, Act.put] using builtKey) ?_)
          | (with_reducible change wpList _ _ _ (⟨_, Op.store _ _ _, _, _, _, _⟩ :: _) _ _; refine wpList_store_blk rfl 25 (.tmp 6) (.tmp 23) rfl g6 (zb 32) rfl rfl 25 (zb 32) hR2 zb_size rfl zb_one ?_))
        intro w7 hR7 hk7 hs7
        go_wp2
        refine bodyPost_ret (results_blk2 rfl _ g6 25 _ _ _ rfl rfl hR7 arr32b rfl zb_size) rfl ?_
        exact ⟨by rw [HU.out.1, HU.out.2]; rfl, hK2.trans hk7 (by simp; omega)⟩
end Go.Proofs.YtckffideobjlfaaDoor
