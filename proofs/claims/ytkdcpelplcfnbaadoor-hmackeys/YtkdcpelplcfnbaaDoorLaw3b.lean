/-
  The walk of a law of layer 3: a key of more than 64 bytes is as good as its digest, a shorter one as good as with noughts behind it. No statement of the seed is proved here.
-/
import Derived.Test.YtkdcpelplcfnbaaDoorLaw3a
import Derived.Test.YtkdcpelplcfnbaaDoorAppZ
import Derived.Test.YtkdcpelplcfnbaaDoorMemStep
namespace Go.Proofs.YtkdcpelplcfnbaaDoor
open Go.RowKit
set_option linter.unusedVariables false

set_option maxRecDepth 100000 in
set_option maxHeartbeats 2000000 in
theorem keys_walk (A : Option Addr) (n c : Nat) (key : List UInt8) (A' : Option Addr) (n' c' : Nat) (text : List UInt8) (a2 : Int) (w : World) (hgl : Glob w) (ha : RdB w A n c key) (hb : RdB w A' n' c' text) (w2 : (Lit.int .u8 a2).wf = true) :
    Calls Tryd.prog 6 #[.slice A n c, .slice A' n' c', .int .u8 a2] w fun e w' => e = .returned (.bool true) ∧ Kept [] w w' := by
  obtain ⟨i0, hi, hz0, hz1, hz2⟩ := info_parts u8info
  obtain ⟨x0, x1⟩ := bounds_u8 w2
  have hca := ha.cap
  have hcb := hb.cap
  have hla := ha.len
  have hma := ha.most
  have hmb := hb.most
  unfold maxLen at hma hmb
  by_cases hbig : 300 < n ∨ 300 < n'
  · have hd : (decide ((300 : Int) < (n : Int)) || decide ((300 : Int) < (n' : Int))) = true := by
      rcases hbig with h | h
      · simp; left; omega
      · simp; right; omega
    by_cases h1 : 300 < n
    · clear hbig hd
      go_enter Tryd.func6, Tryd.ntmps6
      go_wp2_with fail
      refine (wakes_any _ hgl).mono ?_
      rintro e w3 ⟨rfl, hk1⟩
      go_wp2
      go_ret
      exact ⟨rfl, hk1⟩
    · have h2 : 300 < n' := by omega
      clear hbig hd
      go_enter Tryd.func6, Tryd.ntmps6
      go_wp2_with fail
      refine (wakes_any _ hgl).mono ?_
      rintro e w3 ⟨rfl, hk1⟩
      go_wp2
      go_ret
      exact ⟨rfl, hk1⟩
  · have hn : n ≤ 300 := by omega
    have hn' : n' ≤ 300 := by omega
    clear hbig
    by_cases hlong : 64 < n
    · have hTD := hTag_digest text (key := key) (by omega)
      have HT := Lib.hid hTD
      have hd := shaSum_length key
      have hcutK := fun g => run_cut_all (P := Tryd.prog) 25 5 32 g 0 arr32b size1b (by omega)
      clear hTD hla
      go_enter Tryd.func6, Tryd.ntmps6
      go_wp2_with fail
      refine (wakes_any _ hgl).mono ?_
      rintro e w3 ⟨rfl, hk1⟩
      go_wp2_with fail
      refine (sum_any A n c key _ (ha.kept0 hk1) (hgl.kept0 hk1) (by omega)).mono ?_
      rintro e w4 ⟨rfl, hk4⟩
      have hK4 := hk1.andThen hk4
      clear hk1 hk4
      go_wp2_with (with_reducible change wpList _ _ _ (⟨_, Op.alloc _, _, _, _, _⟩ :: _) _ _; refine wpList_alloc_blk rfl 25 rfl _ zero32 ?_)
      intro w5 hR5 hk5 hs5
      obtain ⟨g, hg⟩ : ∃ g, g = w4.heap.size := ⟨_, rfl⟩
      rw [← hg] at hR5 ⊢
      have hgw : w.heap.size ≤ g := by have := hK4.size; omega
      clear hs5 hg
      go_wp2_with (with_reducible change wpList _ _ _ (⟨_, Op.store _ _ _, _, _, _, _⟩ :: _) _ _; refine wpList_store_blk rfl 25 (.tmp 7) (.tmp 23) rfl g (bvs (shaSum key)) rfl rfl 25 (zb 32) hR5 (key_size _) (key_zb _) (bvs_one _) ?_)
      intro w6 hR6 hk6 hs6
      have hK6 : Kept [] w w6 := (hK4.andThen hk5).trans hk6 (by simp; omega)
      have hD6 := hR6.all 32 hd (by omega)
      clear hR5 hk5 hk6 hs6 hR6 hK4
      go_wp2_with fail
      refine (hTagF_any _ A' 32 32 n' c' (shaSum key) text _ hD6 (hb.kept0 hK6) (hgl.kept0 hK6) (by omega) (by omega)).mono ?_
      rw [HT.out]
      rintro e w7 ⟨rfl, hk7⟩
      have hK7 := hK6.andThen hk7
      clear hD6 hK6 hk7
      go_wp2_with fail
      refine (hTagF_any A A' n c n' c' key text _ (ha.kept0 hK7) (hb.kept0 hK7) (hgl.kept0 hK7) (by omega) (by omega)).mono ?_
      rintro e w8 ⟨rfl, hk8⟩
      have hg := fun W x y => run_eqGuard_agg (P := Tryd.prog) W .eql 25 x y (bvs (hTag key text)).toArray (bvs (hTag key text)).toArray (by kernel_rfl)
      have heq := fun W => run_equalIn_key (hTag key text) (hTag_length _ _) W
      go_wp2
      go_ret
      exact ⟨rfl, hK7.andThen hk8⟩
    · obtain ⟨d, hd⟩ : ∃ d : Nat, d = 65 - n := ⟨_, rfl⟩
      have hsub : IntKind.i64.wrap (65 - (n : Int)) = (d : Int) := by rw [IntWalk.i64_in _ (by omega)]; omega
      obtain ⟨j, hj⟩ : ∃ j : Nat, a2 % (d : Int) = (j : Int) := ⟨(a2 % (d : Int)).toNat, by have := Int.emod_nonneg a2 (show (d : Int) ≠ 0 by omega); omega⟩
      have hjd : j < d := by have := Int.emod_lt_of_pos a2 (show 0 < (d : Int) by omega); omega
      have hd1 : d + n ≤ 65 := by omega
      have hd2 : 1 ≤ d := by omega
      have hd3 : (1 : Int) ≤ (d : Int) := by omega
      have hd0 : ((d : Int) == 0) = false := by simp; omega
      have haw : IntKind.i64.wrap a2 = a2 := IntWalk.i64_in _ (by omega)
      have hd4 : ¬ ((d : Int) = 0) := by omega
      have hd5 : ¬ (d = 0) := by omega
      have htm : a2.tmod (d : Int) = (j : Int) := by rw [IntWalk.rem_in _ _ x0]; exact hj
      have hjw : IntKind.i64.wrap (j : Int) = (j : Int) := IntWalk.i64_in _ (by omega)
      clear hd
      have hTN := hTag_noughts text j (key := key) (by omega)
      have HT := Lib.hid hTN
      have Hl := Lib.hid hla
      clear hTN hla
      go_enter Tryd.func6, Tryd.ntmps6
      go_wp2_with fail
      refine (wakes_any _ hgl).mono ?_
      rintro e w3 ⟨rfl, hk1⟩
      have hown : OwB 5 (w3.drew.alloc (.cells #[] 5)) (.slice (some ⟨w3.heap.size, 0, none⟩) 0 0) [] := by
        have := World.ownsRow_lit (base := 0) (e := 5) (size := 1) w3.drew #[] 0 (Nat.zero_le _) (by simp [maxLen]) rfl
        simpa [OwB, bvs] using this
      have hA : Kept [] w3 (w3.drew.alloc (.cells #[] 5)) := ((Kept.refl [] w3).drew).alloc _
      have HA := Lib.hid hA
      have HO := Lib.hid hown
      have ha1 := ha.kept0 hk1
      clear hA hown
      go_wp2
      go_region_held3 (fun w' => True) (trivial) (first
        | (refine step_append_bytes (by rfl) (.tmp 31) (.tmp 32) 22 (by rfl) 5 i0 _ 1 Tryd.underlying22 hi hz0 hz1 hz2 (by rfl) _ [] (by rfl) HO.out A n c key (by rfl) (ha1.kept0 HA.out) (by simp [maxLen]; omega) (by simp; omega) ?_; intro v5 w5 ho5 hk5 hm5; obtain ⟨hK5, hb5⟩ := app_new HA.out (by intro g hg; simp [Value.ownBlock] at hg; omega) hk5 hm5; obtain ⟨A5, n5, c5, rfl, hr5, _⟩ := ho5.form)
        | (refine step_append_zeros (by rfl) (.tmp 33) (.tmp 39) 22 3 (by rfl) 5 _ i0 Tryd.underlying22 Tryd.underlying3 hi hz0 hz1 hz2 _ _ (by rfl) ho5 _ _ j (by rfl) (by first | rfl | exact htm | (rw [haw]; exact htm) | (rw [hsub, htm, hjw]; done) | (rw [hsub, htm]; done) | omega) (by omega) (by rw [List.nil_append, Hl.out]; omega) ?_; intro v6 w6 ho6 hk6 hm6; obtain ⟨hK6, hb6⟩ := app_new hK5 hb5 hk6 hm6; obtain ⟨A6, n6, c6, rfl, hr6, _⟩ := ho6.form))
      all_goals have hKw := hk1.andThen hK6
      all_goals rw [List.nil_append] at hr6
      all_goals have hn6 := hr6.len
      all_goals rw [List.length_append, List.length_replicate, Hl.out] at hn6
      all_goals have hn6b : n6 < 1000 := (by omega)
      all_goals clear hn6 hk5 hm5 hK5 hb5 hr5 ho5 hk6 hm6 hK6 hb6 ho6 HA HO ha1 hk1
      all_goals go_wp2_with fail
      all_goals refine (hTagF_any A6 A' n6 c6 n' c' _ text _ hr6 (hb.kept0 hKw) (hgl.kept0 hKw) (by omega) (by omega)).mono ?_
      all_goals rw [HT.out]
      all_goals rintro e w7 ⟨rfl, hk7⟩
      all_goals have hK7 := hKw.andThen hk7
      all_goals clear hr6 hKw hk7
      all_goals go_wp2_with fail
      all_goals refine (hTagF_any A A' n c n' c' key text _ (ha.kept0 hK7) (hb.kept0 hK7) (hgl.kept0 hK7) (by omega) (by omega)).mono ?_
      all_goals rintro e w8 ⟨rfl, hk8⟩
      all_goals have hg := fun W x y => run_eqGuard_agg (P := Tryd.prog) W .eql 25 x y (bvs (hTag key text)).toArray (bvs (hTag key text)).toArray (by kernel_rfl)
      all_goals have heq := fun W => run_equalIn_key (hTag key text) (hTag_length _ _) W
      all_goals go_wp2
      all_goals go_ret
      all_goals exact ⟨rfl, hK7.andThen hk8⟩
end Go.Proofs.YtkdcpelplcfnbaaDoor
