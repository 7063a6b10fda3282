/-
  Contracts of the document's own unit. No statement of the seed is proved here.
-/
import Derived.Test.YtmfbgogfefgglaaR7m
import Derived.Test.YtmfbgogfefgglaaR7c
import Derived.Test.YtmfbgogfefgglaaM8u
import Derived.Test.YtmfbgogfefgglaaR82c
namespace Go.Proofs.Ytmfbgogfefgglaa
open Go.RowKit
set_option linter.unusedVariables false

theorem unitR8_no (z : Int) (w : World) (h : z < 1 ∨ 255 < z) : Calls Try.prog 22 #[.int .i64 z] w (LRet [] w) := by
  rcases h with h | h
  all_goals
    go_enter Try.func22, Try.ntmps22
    go_wp2
    go_ret
    exact ⟨none, 0, 0, rfl, RdL.nil _, Kept.refl _ _⟩
theorem un_row (n r : Nat) (hr : r < n) : (List.replicate n (0 : UInt8)).set r 1 = rm n (fun j => (un r j : GB).v) := by
  refine rm_ext (by simp) (fun j hj => ?_)
  rw [List.getElem?_set, List.length_replicate]
  unfold un
  by_cases e : r = j
  · rw [if_pos e, if_pos hr, if_pos e]; rfl
  · rw [if_neg e, if_neg e, List.getElem?_replicate, if_pos hj]; rfl
set_option maxRecDepth 100000 in
set_option maxHeartbeats 2000000 in
theorem unitR8_any (n : Nat) (z : Int) (w : World) (hz : z = (n : Int)) (h1 : 1 ≤ n) (h2 : n ≤ 255) : Calls Try.prog 22 #[.int .i64 z] w (LRet (ofm n n un) w) := by
  subst hz
  obtain ⟨i0, hi0, hz0, hz1, hz2⟩ := info_parts u8info
  obtain ⟨i1, hj0, hy0, hy1, hy2⟩ := info_parts tBinfo8
  go_enter Try.func22, Try.ntmps22
  go_wp2
  go_loopw [3, 4] (fun u v wr => ∃ (r : Nat) (vs : List Value) (A5 : Option Addr) (n5 c5 : Nat), r ≤ n ∧ v = .int .i64 (r : Int) ∧ u = .slice A5 n5 c5 ∧ Hid (OwV 37 wr (.slice A5 n5 c5) vs) ∧ Hid (TxtO wr (.slice A5 n5 c5) vs (ofm r n un)) ∧ Hid (Kept [] w wr) ∧ Hid (∀ g, (Value.slice A5 n5 c5).ownBlock = some g → w.heap.size ≤ g)) (fun _ v _ => n - (intOf v).toNat)
  case atStart => exact ⟨0, [], none, 0, 0, by omega, rfl, rfl, Lib.hid (OwV.nil _ _), Lib.hid (TxtO.nil _ _), Lib.hid (Kept.refl _ _), Lib.hid (fun g hg => by simp [Value.ownBlock] at hg)⟩
  case round =>
    obtain ⟨r, vs, A5, n5, c5, hr, rfl, rfl, HO5, HT5, HK5, Hb5⟩ := hrel
    by_cases hlt : r < n
    · go_wp2_with (with_reducible change wpList _ _ _ (⟨_, Op.makeSlice _ _ _, _, _, _, _⟩ :: _) _ _; refine wpList_make_bytes rfl (.tmp 17) (.tmp 17) 37 rfl 5 i0 Try.underlying37 hi0 hz0 hz1 hz2 _ _ _ _ n rfl rfl rfl rfl (by omega) ?_)
      intro w6 ho6 hk6
      obtain ⟨g, hg⟩ : ∃ g, g = wr.heap.size := ⟨_, rfl⟩
      rw [← hg] at ho6 ⊢
      have f6 := ho6.fz r
      have c6 : w6.cell? ⟨g, r, none⟩ = some (.int .u8 0) := by rw [ho6.blk.cell, bvs_zeros, List.getElem?_replicate, if_pos hlt]
      have hs6 := ho6.set r 1
      rw [un_row n r hlt] at hs6
      have hk7 : Kept [] wr (w6.setCell ⟨g, r, none⟩ (.int .u8 1)) := hk6.setCell (.inr (by simp; omega)) _
      have hs7 : OwB 5 (w6.setCell ⟨g, r, none⟩ (.int .u8 1)) (.slice (some ⟨g, 0, none⟩) n n) (rm n fun j => (un r j : GB).v) := hs6
      have hgw : wr.heap.size ≤ g := by omega
      have hr6 := hs7.rd
      have HO56 := Lib.hid (HO5.out.kept0 hk7)
      obtain ⟨w7, hw7⟩ : ∃ w7, w7 = w6.setCell ⟨g, r, none⟩ (.int .u8 1) := ⟨_, rfl⟩
      rw [← hw7] at hk7 hr6 HO56
      have hT2 : TxtO w7 (.slice A5 n5 c5) [.slice (some ⟨g, 0, none⟩) n n] [rm n (fun j => (un r j : GB).v)] := by
        refine TxtO.one hr6 (fun _ g' hg' x hx => ?_)
        injection hx with hx
        subst hx
        have e2 : g' < wr.heap.size := by obtain ⟨_, _, _, _, _, hh⟩ := HO5.out.form; exact hh g' hg'
        show g ≠ g'
        omega
      have hT6 := (HT5.out.kept0 hk7).append hT2
      rw [← ofm_snoc] at hT6
      have HT6 := Lib.hid hT6
      have HV : Hid (vs.length = r) := Lib.hid (by rw [HT5.out.1, ofm_length])
      have HA6 : Hid (Kept [] w (w7.alloc (.cells #[.slice (some ⟨g, 0, none⟩) n n] 37))) := Lib.hid ((HK5.out.andThen hk7).alloc _)
      have HA7 : Hid (Kept [] w7 (w7.alloc (.cells #[.slice (some ⟨g, 0, none⟩) n n] 37))) := Lib.hid ((Kept.refl [] w7).alloc _)
      have hN := RdV.one w7 37 (.slice (some ⟨g, 0, none⟩) n n)
      rw [show w7.heap.size = w6.heap.size by rw [hw7]; simp] at hN
      have HN := Lib.hid hN
      clear ho6 hk6 hs6 hg hr6 hT2 hT6 hs7 hk7 hgw HO5 HT5 hN
      subst hw7
      go_wp2_with (at_builtin; refine wpList_append_vals rfl (.tmp 22) (.tmp 24) 22 rfl 37 i1 _ 24 Try.underlying22 hj0 hy0 hy1 hy2 rfl (.slice A5 n5 c5) vs rfl (HO56.out.alloc _) _ 1 1 [.slice (some ⟨g, 0, none⟩) n n] rfl HN.out (by simp [Value.oneCell']) (by rw [HV.out]; simp only [maxLen]; omega) (by rw [HV.out]; omega) ?_)
      intro v8 w8 ho8 hk8 hm8
      obtain ⟨hK8, hb8⟩ := app_new HA6.out Hb5.out hk8 hm8
      have HT8 := Lib.hid ((HT6.out.kept0 HA7.out).app hk8 hm8)
      obtain ⟨A8, n8, c8, rfl, _, _⟩ := ho8.form
      have HO8 := Lib.hid ho8
      have HK8 := Lib.hid hK8
      have Hb8 := Lib.hid hb8
      clear ho8 hK8 hb8 hk8 hm8 HA6 HA7 HT6 Hb5 HV HO56
      go_wp2
      go_roundw
      case rel => exact ⟨r + 1, _, A8, n8, c8, by omega, by go_num, rfl, HO8, HT8, HK8, Hb8⟩
      case measure => simp [intOf]; omega
    · obtain rfl : n = r := by omega
      have HL5 : Hid (RdL wr A5 n5 c5 (ofm n n un)) := Lib.hid (RdL.of_vals HO5.out.rd HT5.out.txt)
      clear HT5 Hb5 HO5
      go_wp2
      go_ret
      exact ⟨A5, n5, c5, rfl, HL5.out, HK5.out⟩
end Go.Proofs.Ytmfbgogfefgglaa
