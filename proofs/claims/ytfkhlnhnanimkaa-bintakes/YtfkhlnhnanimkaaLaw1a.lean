/-
  Walks of the fixed fact that layer 1's laws ask first, and of the document's width. No statement of the seed is proved here.
-/
import Derived.Test.YtfkhlnhnanimkaaBin4
import Derived.Test.YtfkhlnhnanimkaaRef1
import Derived.OpenShut
namespace Go.Proofs.Ytfkhlnhnanimkaa
open Go.RowKit
set_option linter.unusedVariables false

theorem Kept.of_drewN (w : World) (n : Nat) : Kept [] w (w.drewN n) := (Kept.refl [] w).drewN n

theorem wakes_any (w : World) : Calls Try.prog 9 #[] w fun e w' => e = .returned (.bool true) ∧ Kept [] w w' := by
  go_enter Try.func9, Try.ntmps9
  go_wp2_with fail
  refine (wSmall_any _ _ _ _ _ (Wri.new w) (by omega) (by omega) (by simp)).mono ?_
  rintro e w1 ⟨rfl, F1, hP1⟩
  go_wp2_with fail
  refine (wSmall_any _ _ _ _ _ hP1.wri (by omega) (by omega) (by rw [List.length_append, sm_length]; decide)).mono ?_
  rintro e w2 ⟨rfl, F2, hP2⟩
  go_wp2_with fail
  refine (wSmall_any _ _ _ _ _ hP2.wri (by omega) (by omega) (by rw [List.length_append, List.length_append, sm_length, sm_length]; decide)).mono ?_
  rintro e w3 ⟨rfl, F3, hP3⟩
  have hk3 : Kept [] w w3 := ((Kept.refl [] w).alloc _).trans ((hP1.trans hP2).trans hP3).kept (by simp)
  have hW := hP3.wri
  have hs : ([] ++ sm (250 : Int).toNat ++ sm (251 : Int).toNat) ++ sm (256 : Int).toNat = [250, 251, 251, 252, 1, 0] := by decide
  rw [hs] at hW
  clear hs hP1 hP2 hP3
  go_wp2_with fail
  refine (wOut_any _ _ _ _ hW (by decide)).mono ?_
  rintro e w4 ⟨v, rfl, ho, hk4, hf⟩
  obtain ⟨A, n, c, rfl, hrd, hbl⟩ := ho.form
  obtain rfl : 6 = n := hrd.len
  go_wp2_with fail
  refine (same_yes _ _ _ _ _ [250, 251, 251, 252, 1, 0] _ (hrd.alloc _) ?_).mono ?_
  · exact RdB.lit _ _ _ _ _ rfl rfl (by simp [maxLen])
  rintro e w5 ⟨rfl, m, rfl⟩
  go_wp2
  go_ret
  exact ⟨rfl, ((hk3.andThen hk4).alloc _).drewN m⟩

theorem width_any (x : Int) (w : World) (h0 : 0 ≤ x) (h1 : x ≤ 18446744073709551615) :
    Calls Try.prog 28 #[.int .u64 x] w fun e w' => e = .returned (.int .i64 (wid x.toNat)) ∧ w = w' := by
  go_enter Try.func28, Try.ntmps28
  go_wp2
  go_loop [0, 3] (fun y n => ∃ (z : Int) (k : Nat), y = .int .u64 z ∧ n = .int .i64 k ∧ 0 ≤ z ∧ z ≤ 18446744073709551615 ∧ k + wid z.toNat = wid x.toNat + 1) (fun y _ => (intOf y).toNat)
  case atStart => exact ⟨x, 1, rfl, rfl, h0, h1, by omega⟩
  case round =>
    obtain ⟨z, k, rfl, rfl, z0, z1, hz⟩ := hrel
    have hp := wid_pos x.toNat
    have hp2 := wid_pos z.toNat
    by_cases hlt : 255 < z
    · have hs : wid (z / 256).toNat + 1 = wid z.toNat := by
        have e : (z / 256).toNat = z.toNat / 256 := by omega
        rw [e]
        exact wid_div _ (by omega) (by omega)
      have H := Lib.hid hz
      have H2 := Lib.hid hs
      have hk8 : k ≤ 9 := by omega
      clear hz hs
      go_wp2
      go_round
      case rel => exact ⟨z / 256, k + 1, rfl, by go_num, by omega, by omega, by have := H.out; have := H2.out; omega⟩
      case measure => simp [intOf]; omega
    · have hs : wid z.toNat = 1 := by unfold wid; rw [if_pos (by omega)]
      have e : k = wid x.toNat := by omega
      have H := Lib.hid hz
      clear hz
      go_wp2
      go_ret
      exact ⟨ret_int (by omega), rfl⟩

theorem sizes_walk (a0 : Int) (w : World) (w0 : (Lit.int .u32 a0).wf = true) : Calls Try.prog 8 #[.int .u32 a0] w fun e w' => e = .returned (.bool true) ∧ Kept [] w w' := by
  have hb : 0 ≤ a0 ∧ a0 ≤ 4294967295 := bounds_u32 w0
  obtain ⟨b0, b1⟩ := hb
  by_cases h : a0 ≤ 250
  · have hd : decide (251 ≤ a0) = false := by simp; omega
    go_enter Try.func8, Try.ntmps8
    go_wp2_with fail
    refine (wakes_any _).mono ?_
    rintro e w1 ⟨rfl, hk1⟩
    go_wp2_with fail
    refine (wSmall_any _ _ _ _ _ (Wri.new _) (by omega) (by omega) (by simp)).mono ?_
    rintro e w2 ⟨rfl, F2, hP2⟩
    go_wp2_with fail
    refine (wOut_any _ _ _ _ hP2.wri (by rw [List.nil_append, sm_length]; have := (wid_pos a0.toNat); unfold fol; split <;> omega)).mono ?_
    rintro e w3 ⟨v, rfl, ho, hk3, hf⟩
    obtain ⟨A, n, c, rfl, hrd, hbl⟩ := ho.form
    obtain rfl : 1 = n := by
      have := hrd.len
      rw [List.nil_append, sm_length] at this
      unfold fol at this
      rw [if_pos (by omega)] at this
      exact this
    go_wp2
    go_ret
    exact ⟨rfl, ((hk1.alloc _).trans hP2.kept (by have := hk1.size; simp; omega)).andThen hk3⟩
  · have hp := wid_pos a0.toNat
    go_enter Try.func8, Try.ntmps8
    go_wp2_with fail
    refine (wakes_any _).mono ?_
    rintro e w1 ⟨rfl, hk1⟩
    go_wp2_with fail
    refine (wSmall_any _ _ _ _ _ (Wri.new _) (by omega) (by omega) (by simp)).mono ?_
    rintro e w2 ⟨rfl, F2, hP2⟩
    go_wp2_with fail
    refine (width_any _ _ (by omega) (by omega)).mono ?_
    rintro e w3 ⟨rfl, rfl⟩
    go_wp2_with fail
    refine (wOut_any _ _ _ _ hP2.wri (by rw [List.nil_append, sm_length]; unfold fol; split <;> omega)).mono ?_
    rintro e w3 ⟨v, rfl, ho, hk3, hf⟩
    obtain ⟨A, n, c, rfl, hrd, hbl⟩ := ho.form
    obtain rfl : 1 + wid a0.toNat = n := by
      have := hrd.len
      rw [List.nil_append, sm_length] at this
      unfold fol at this
      rw [if_neg (by omega)] at this
      exact this
    go_wp2
    go_ret
    refine ⟨?_, ((hk1.alloc _).trans hP2.kept (by have := hk1.size; simp; omega)).andThen hk3⟩
    simp
end Go.Proofs.Ytfkhlnhnanimkaa
