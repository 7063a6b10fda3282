/-
  The walk of a law of layer 3: any text's tag by any key is what the document says; both stay as they were. No statement of the seed is proved here.
-/
import Derived.Test.YtkdcpelplcfnbaaDoorLaw3a
import Derived.Test.YtkdcpelplcfnbaaDoorRh1
namespace Go.Proofs.YtkdcpelplcfnbaaDoor
open Go.RowKit
set_option linter.unusedVariables false

theorem own_empty (w : World) : OwB 5 (w.alloc (.cells #[] 5)) (.slice (some ⟨w.heap.size, 0, none⟩) 0 0) [] := by
  have := World.ownsRow_lit (base := 0) (e := 5) (size := 1) w #[] 0 (Nat.zero_le _) (by simp [maxLen]) rfl
  simpa [OwB, bvs] using this

set_option maxRecDepth 100000 in
set_option maxHeartbeats 2000000 in
theorem tag_walk (A : Option Addr) (n c : Nat) (key : List UInt8) (A' : Option Addr) (n' c' : Nat) (text : List UInt8) (w : World) (hgl : Glob w) (ha : RdB w A n c key) (hb : RdB w A' n' c' text) :
    Calls Tryd.prog 3 #[.slice A n c, .slice A' n' c'] w fun e w' => e = .returned (.bool true) ∧ Kept [] w w' := by
  obtain ⟨i0, hi, hz0, hz1, hz2⟩ := info_parts u8info
  have hca := ha.cap
  have hcb := hb.cap
  have hma := ha.most
  have hmb := hb.most
  unfold maxLen at hma hmb
  by_cases h1 : 1000 < n
  · go_enter Tryd.func3, Tryd.ntmps3
    go_wp2_with fail
    refine (wakes_any _ hgl).mono ?_
    rintro e w3 ⟨rfl, hk1⟩
    go_wp2
    go_ret
    exact ⟨rfl, hk1⟩
  by_cases h2 : 2000 < n'
  · go_enter Tryd.func3, Tryd.ntmps3
    go_wp2_with fail
    refine (wakes_any _ hgl).mono ?_
    rintro e w3 ⟨rfl, hk1⟩
    go_wp2
    go_ret
    exact ⟨rfl, hk1⟩
  have hkk : (key == key) = true := by simp
  have htt : (text == text) = true := by simp
  have HK := Lib.hid hkk
  have HT := Lib.hid htt
  clear hkk htt
  go_enter Tryd.func3, Tryd.ntmps3
  go_wp2_with fail
  refine (wakes_any _ hgl).mono ?_
  rintro e w3 ⟨rfl, hk3⟩
  have HO := Lib.hid (own_empty w3)
  have HA : Hid (Kept [] w (w3.alloc (.cells #[] 5))) := Lib.hid (hk3.alloc _)
  have hs3 := hk3.size
  go_wp2_with (at_builtin; refine wpList_append_bytes rfl (.tmp 17) (.tmp 18) 22 rfl 5 i0 _ 1 Tryd.underlying22 hi hz0 hz1 hz2 rfl (.slice (some ⟨w3.heap.size, 0, none⟩) 0 0) [] rfl HO.out A n c key rfl (ha.kept0 HA.out) (by simp only [maxLen, List.length_nil]; omega) (by simp only [List.length_nil]; omega) ?_)
  intro v5 w5 ho5 hk5 hm5
  obtain ⟨hK5, hb5⟩ := app_new HA.out (by intro g hg; simp [Value.ownBlock] at hg; omega) hk5 hm5
  obtain ⟨A5, n5, c5, rfl, hr5, _⟩ := ho5.form
  clear HO HA hk5 hm5 hs3
  have HO := Lib.hid (own_empty w5)
  have HA : Hid (Kept [] w (w5.alloc (.cells #[] 5))) := Lib.hid (hK5.alloc _)
  have HA5 : Hid (Kept [] w5 (w5.alloc (.cells #[] 5))) := Lib.hid ((Kept.refl [] w5).alloc _)
  have hs5 := hK5.size
  go_wp2_with (at_builtin; refine wpList_append_bytes rfl (.tmp 20) (.tmp 21) 22 rfl 5 i0 _ 1 Tryd.underlying22 hi hz0 hz1 hz2 rfl (.slice (some ⟨w5.heap.size, 0, none⟩) 0 0) [] rfl HO.out A' n' c' text rfl (hb.kept0 HA.out) (by simp only [maxLen, List.length_nil]; omega) (by simp only [List.length_nil]; omega) ?_)
  intro v7 w7 ho7 hk7 hm7
  obtain ⟨hK7, _⟩ := app_new HA5.out (by intro g hg; simp [Value.ownBlock] at hg; omega) hk7 hm7
  obtain ⟨A7, n7, c7, rfl, hr7, _⟩ := ho7.form
  have hr57 := hr5.kept0 hK7
  have hKw := hK5.andThen hK7
  have hn5 : n5 = n := by have h1 := hr57.len; have h2 := ha.len; omega
  have hn7 : n7 = n' := by have h1 := hr7.len; have h2 := hb.len; omega
  subst hn5 hn7
  clear HO HA HA5 hk7 hm7 hs5 hr5 ho5 ho7 hK5 hK7 hb5 hk3
  go_wp2_with fail
  refine (hTagF_any A5 A7 n5 c5 n7 c7 key text _ hr57 hr7 (hgl.kept0 hKw) (by omega) (by omega)).mono ?_
  rintro e w8 ⟨rfl, hk8⟩
  have hK8 := hKw.andThen hk8
  have hr58 := hr57.kept0 hk8
  have hr78 := hr7.kept0 hk8
  clear hKw hk8 hr57 hr7
  go_wp2_with fail
  refine (rTag_any A A' n5 c n7 c' key text _ (ha.kept0 hK8) (hb.kept0 hK8) (by omega) (by omega)).mono ?_
  rintro e w9 ⟨rfl, hk9⟩
  have hK9 := hK8.andThen hk9
  have hr59 := hr58.kept0 hk9
  have hr79 := hr78.kept0 hk9
  have hg := fun W x y => run_eqGuard_agg (P := Tryd.prog) W .eql 25 x y (bvs (hTag key text)).toArray (bvs (hTag key text)).toArray (by kernel_rfl)
  have heq := fun W => run_equalIn_key (hTag key text) (hTag_length _ _) W
  clear hK8 hk9 hr58 hr78
  go_wp2_with fail
  refine (same_k A5 A n5 n5 c5 c key key _ hr59 (ha.kept0 hK9)).mono ?_
  rw [HK.out]
  rintro e w10 ⟨rfl, hk10⟩
  have hK10 := hK9.andThen hk10
  have hr710 := hr79.kept0 hk10
  clear hK9 hk10 hr59 hr79
  go_wp2_with fail
  refine (same_k A7 A' n7 n7 c7 c' text text _ hr710 (hb.kept0 hK10)).mono ?_
  rw [HT.out]
  rintro e w11 ⟨rfl, hk11⟩
  go_wp2
  go_ret
  exact ⟨rfl, hK10.andThen hk11⟩
end Go.Proofs.YtkdcpelplcfnbaaDoor
