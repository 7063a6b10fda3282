/-
  The walk of a law of layer 4: any key is expanded as the document says, or that is refused; fewer bytes are the first ones of more. No statement of the seed is proved here.
-/
import Derived.Test.YtckffideobjlfaaDoorRk2
import Derived.Test.YtckffideobjlfaaDoorMemStep
import Derived.Deep.RegionHeld3
namespace Go.Proofs.YtckffideobjlfaaDoor
open Go.RowKit
set_option linter.unusedVariables false

theorem Blk.range {w : World} {g : Nat} {t : TypeId} {cs : List Value} (h : Blk w g t cs) : w.rangeAt g 0 cs := fun j v hv => by rw [Nat.zero_add, h.cell]; exact hv

/-- What is expanded, and the error, whatever is asked. -/
def hkR (key info : List UInt8) (n : Int) : List UInt8 := if n < 0 ∨ 8160 < n then [] else hkE key info n.toNat
def hkErr (n : Int) : Nat := if n < 0 ∨ 8160 < n then 14 else 0
theorem hkEF_all (key info : List UInt8) (A' : Option Addr) (n' c' : Nat) (n : Int) (w : World) (hkl : key.length = 32) (hi : RdB w A' n' c' info) (hgl : Glob w) (hn' : n' ≤ 100000) :
    Calls Tryd.prog 9 #[.agg (bvs key).toArray, .slice A' n' c', .int .i64 n] w (ExpRet (hkR key info n) (hkErr n) w) := by
  unfold hkR hkErr
  by_cases h : n < 0 ∨ 8160 < n
  · rw [if_pos h, if_pos h]; exact hkEF_no key A' n' c' n w h
  · rw [if_neg h, if_neg h]
    obtain ⟨m, rfl⟩ : ∃ m : Nat, n = m := ⟨n.toNat, by omega⟩
    exact hkEF_any key info A' n' c' m w hkl hi hgl (by omega) hn'
theorem rE_all (key info : List UInt8) (A' : Option Addr) (n' c' : Nat) (n : Int) (w : World) (hkl : key.length = 32) (hi : RdB w A' n' c' info) (hn' : n' ≤ 90000) :
    Calls Tryd.prog 10 #[.agg (bvs key).toArray, .slice A' n' c', .int .i64 n] w (ExpRet (hkR key info n) (hkErr n) w) := by
  unfold hkR hkErr
  by_cases h : n < 0 ∨ 8160 < n
  · rw [if_pos h, if_pos h]; exact rE_no key A' n' c' n w h
  · rw [if_neg h, if_neg h]
    obtain ⟨m, rfl⟩ : ∃ m : Nat, n = m := ⟨n.toNat, by omega⟩
    exact rE_any key info A' n' c' m w hkl hi (by omega) hn'

set_option maxRecDepth 100000 in
set_option maxHeartbeats 4000000 in
theorem expand_walk (key : List UInt8) (A' : Option Addr) (n' c' : Nat) (info : List UInt8) (n : Int) (w : World) (hgl : Glob w) (hkl : key.length = 32) (hb : RdB w A' n' c' info) (hnw : (Lit.int .i64 n).wf = true) :
    Calls Tryd.prog 4 #[.agg (bvs key).toArray, .slice A' n' c', .int .i64 n] w fun e w' => e = .returned (.bool true) ∧ Kept [] w w' := by
  obtain ⟨i0, hi0, hz0, hz1, hz2⟩ := info_parts u8info
  obtain ⟨x0, x1⟩ := bounds_i64 hnw
  have hB := Blk.new w 25 (bvs key)
  have hK1 : Kept [] w (w.alloc (.cells (bvs key).toArray 25)) := (Kept.refl [] w).alloc _
  have hcb := hb.cap
  have hmb := hb.most
  unfold maxLen at hmb
  have Hkl := Lib.hid hkl
  have Hlb := Lib.hid hb.len
  obtain ⟨g3, hg3⟩ : ∃ g, g = w.heap.size := ⟨_, rfl⟩
  rw [← hg3] at hB
  by_cases h1 : 300 < n'
  · go_enter Tryd.func4, Tryd.ntmps4
    go_wp2_with (with_reducible change wpList _ _ _ (⟨_, Op.box _ _, _, _, _, _⟩ :: _) _ _; refine Great.wpList_boxTo rfl 25 _ rfl _ rfl g3 hg3.symm (bvs key).toArray rfl ?_; generalize w.alloc (.cells (bvs key).toArray 25) = w1 at *)
    refine (wakes4_any _ (hgl.kept0 hK1)).mono ?_
    rintro e w3 ⟨rfl, hk3⟩
    go_wp2
    go_ret
    exact ⟨rfl, hK1.andThen hk3⟩
  by_cases h2 : 600 < n ∧ n ≤ 8160
  · obtain ⟨h2, h3⟩ := h2
    go_enter Tryd.func4, Tryd.ntmps4
    go_wp2_with (with_reducible change wpList _ _ _ (⟨_, Op.box _ _, _, _, _, _⟩ :: _) _ _; refine Great.wpList_boxTo rfl 25 _ rfl _ rfl g3 hg3.symm (bvs key).toArray rfl ?_; generalize w.alloc (.cells (bvs key).toArray 25) = w1 at *)
    refine (wakes4_any _ (hgl.kept0 hK1)).mono ?_
    rintro e w3 ⟨rfl, hk3⟩
    go_wp2
    go_ret
    exact ⟨rfl, hK1.andThen hk3⟩
  have h3 : n ≤ 600 ∨ 8160 < n := by omega
  clear h2
  rcases h3 with h2 | h2
  all_goals
    go_enter Tryd.func4, Tryd.ntmps4
    go_wp2_with (with_reducible change wpList _ _ _ (⟨_, Op.box _ _, _, _, _, _⟩ :: _) _ _; refine Great.wpList_boxTo rfl 25 _ rfl _ rfl g3 hg3.symm (bvs key).toArray rfl ?_; generalize w.alloc (.cells (bvs key).toArray 25) = w1 at *)
    refine (wakes4_any _ (hgl.kept0 hK1)).mono ?_
    rintro e w3 ⟨rfl, hk3⟩
    have hB3 := hB.kept0 hk3
    have hK3 := hK1.andThen hk3
    rw [← hg3]
    clear hB hK1 hk3 hkl hg3
    have SK := Lib.hid (fun W (h : Kept [] w3 W) => (hB3.kept0 h).range)
    have HA : Hid (Kept [] w3 (w3.drew.alloc (.cells #[] 5))) := Lib.hid (((Kept.refl [] w3).drew).alloc _)
    have HO : Hid (OwB 5 (w3.drew.alloc (.cells #[] 5)) (.slice (some ⟨w3.heap.size, 0, none⟩) 0 0) []) := Lib.hid (own_empty w3.drew)
    have hb3 := hb.kept0 hK3
    have hg3' := Lib.hid (hgl.kept0 hK3)
    have hu := arr32b
    have hsz := size_of_len size32 Hkl.out
    go_wp2
    go_region_held3 (fun w' => w'.rangeAt g3 0 (bvs key))
      (first
        | exact SK.out _ (Kept.refl [] w3)
        | exact SK.out _ (Kept.refl [] w3).drew
        | exact SK.out _ HA.out
        | exact SK.out _ hK5
        | exact SK.out _ hK6)
      (first
        | (refine step_append_bytes (by rfl) (.tmp 28) (.tmp 29) 22 (by rfl) 5 i0 _ 1 Tryd.underlying22 hi0 hz0 hz1 hz2 (by rfl) _ [] (by rfl) HO.out A' n' c' info (by rfl) (hb3.kept0 HA.out) (by simp only [maxLen, List.length_nil]; omega) (by simp only [List.length_nil]; omega) ?_; intro v5 w5 ho5 hk5 hm5; obtain ⟨hK5, hb5⟩ := app_new HA.out (by intro g hg; simp [Value.ownBlock] at hg; omega) hk5 hm5; obtain ⟨A5, n5, c5, rfl, hr5, _⟩ := ho5.form)
        | (go_at_call 9; refine (hkEF_all key info A5 n5 c5 n _ Hkl.out (by simpa using hr5) (hg3'.out.kept0 hK5) (by have h := hr5.len; have := Hlb.out; simp at h; omega)).mono ?_; rintro e w6 ⟨A6, n6, c6, rfl, hr6, hk6⟩; have hK6 := hK5.andThen hk6))
    have hKw := hK3.andThen hK6
    have hB6 := hB3.kept0 hK6
    clear hK5 hb5 hr5 hk5 hm5 ho5 hk6 HA HO SK hb3 hg3' hB3 hK3 hK6
    go_wp2_with (with_reducible change wpList _ _ _ (⟨_, Op.load _ _, _, _, _, _⟩ :: _) _ _; refine wpList_load_blk rfl 25 (.tmp 3) rfl g3 rfl 25 _ _ hB6 arr32b rfl (size_of_len size32 Hkl.out) ?_)
    go_wp2_with fail
    refine (rE_all key info A' n' c' n _ Hkl.out (hb.kept0 hKw) (by omega)).mono ?_
    rintro e w7 ⟨A7, n7, c7, rfl, hr7, hk7⟩
    have hr67 := hr6.kept0 hk7
    have hK7 := hKw.andThen hk7
    have hB7 := hB6.kept0 hk7
    clear hr6 hk7 hKw hB6
    go_wp2_with fail
    refine (same_k A6 A7 n6 n7 c6 c7 _ _ _ hr67 hr7).mono ?_
    rintro e w8 ⟨rfl, hk8⟩
    have hr8 := hr67.kept0 hk8
    have hK8 := hK7.andThen hk8
    have hB8 := hB7.kept0 hk8
    clear hr7 hr67 hK7 hk8 hB7
    rw [beq_self_eq_true]
    unfold hkErr
  · by_cases h0 : n < 0
    · rw [if_pos (by omega)]
      go_wp2
      go_ret
      exact ⟨rfl, hK8⟩
    rw [if_neg (by omega)]
    by_cases h4 : n = 0
    · subst h4
      go_wp2
      go_ret
      exact ⟨rfl, hK8⟩
    obtain ⟨k, rfl⟩ : ∃ k : Nat, n = (k : Int) := ⟨n.toNat, by omega⟩
    obtain ⟨m, hm⟩ : ∃ m : Nat, m = k - 1 := ⟨_, rfl⟩
    have hmk : m ≤ k := by omega
    have hk6 : k ≤ 600 := by omega
    have hk0 : 0 < k := by omega
    have hsub : (k : Int) - 1 = (m : Int) := by omega
    unfold hkR at hr8
    rw [if_neg (by omega), show ((k : Nat) : Int).toNat = k by omega] at hr8
    have hn6 : n6 = k := by have := hr8.len; rw [hkE_length (by omega)] at this; omega
    subst hn6
    have hcap := hr8.cap
    have hr9 := hr8.take m hmk
    rw [hkE_take _ _ hmk] at hr9
    have hcut := fun W => run_cut_first (P := Tryd.prog) 22 5 Tryd.underlying22 size1b A6 n6 c6 m (m : Int) rfl (by omega) W
    clear hm
    clear hr8 h0 h4
    go_wp2_with (with_reducible change wpList _ _ _ (⟨_, Op.load _ _, _, _, _, _⟩ :: _) _ _; refine wpList_load_blk rfl 25 (.tmp 3) rfl g3 rfl 25 _ _ hB8 arr32b rfl (size_of_len size32 Hkl.out) ?_)
    go_wp2_with fail
    refine (hkEF_any key info A' n' c' m _ Hkl.out (hb.kept0 hK8) (hgl.kept0 hK8) (by omega) (by omega)).mono ?_
    rintro e w9 ⟨A9, n9, c9, rfl, hr99, hk9⟩
    have hr10 := hr9.kept0 hk9
    have hK9 := hK8.andThen hk9
    clear hr9 hB8 hK8 hk9
    go_wp2_with fail
    refine (same_k A9 A6 n9 m c9 c6 _ _ _ hr99 hr10).mono ?_
    rintro e w10 ⟨rfl, hk10⟩
    rw [beq_self_eq_true]
    go_wp2
    go_ret
    exact ⟨rfl, hK9.andThen hk10⟩
  · rw [if_pos (by omega)]
    go_wp2
    go_ret
    exact ⟨rfl, hK8⟩
end Go.Proofs.YtckffideobjlfaaDoor
